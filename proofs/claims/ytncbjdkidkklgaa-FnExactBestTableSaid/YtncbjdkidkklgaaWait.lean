/- Contracts: the wait of a rule by times. -/
import Derived.Test.YtncbjdkidkklgaaRules
import Derived.Test.YtncbjdkidkklgaaEvents
import Derived.Test.YtncbjdkidkklgaaNear
namespace Go.Proofs.Ytncbjdkidkklgaa
open Go.RowKit Go.Lst

def waitR (p : Int) (ts : List Int) (x : RuleD) : Int := x.Least + remG (ts.getD x.To.toNat 0 - ts.getD x.From.toNat 0 - x.Least) p
/-- What is known of a rule and of times of a period. -/
structure Fits (e p : Int) (ts : List Int) (x : RuleD) (fi ti : Nat) (yf yt : Int) : Prop where
  f : x.From = (fi : Int)
  t : x.To = (ti : Int)
  fl : fi < ts.length
  tl : ti < ts.length
  gf : ts[fi]? = some yf
  gt : ts[ti]? = some yt
  f0 : 0 ≤ yf
  f1 : yf ≤ p - 1
  t0 : 0 ≤ yt
  t1 : yt ≤ p - 1
  l0 : 0 ≤ x.Least
  l1 : x.Least ≤ p - 1
theorem fits_of {e p : Int} {ts : List Int} {x : RuleD} (hx : okRule e p x = true) (hl : (ts.length : Int) = e) (ht : allIn ts 0 (p - 1) = true) : ∃ fi ti yf yt, Fits e p ts x fi ti yf yt ∧ waitR p ts x = x.Least + remG (yt - yf - x.Least) p := by
  obtain ⟨⟨a1, a2⟩, ⟨b1, b2⟩, _, ⟨c1, c2⟩, _⟩ := okRule_of hx
  obtain ⟨fi, hf⟩ := Int.eq_ofNat_of_zero_le a1
  obtain ⟨ti, hti⟩ := Int.eq_ofNat_of_zero_le b1
  have h1 : fi < ts.length := by omega
  have h2 : ti < ts.length := by omega
  have e1 : ts[fi]? = some ts[fi] := List.getElem?_eq_getElem _
  have e2 : ts[ti]? = some ts[ti] := List.getElem?_eq_getElem _
  have g1 := allIn_of ht e1
  have g2 := allIn_of ht e2
  refine ⟨fi, ti, _, _, ⟨hf, hti, h1, h2, e1, e2, g1.1, g1.2, g2.1, g2.2, c1, c2⟩, ?_⟩
  unfold waitR
  rw [hf, hti, Int.toNat_natCast, Int.toNat_natCast, getD_of e1, getD_of e2]

set_option maxHeartbeats 2000000 in
theorem waitBy_one (B : Nat) (e p : Int) (x : RuleD) (v : Value) (ts : List Int) (pt pp : Addr) (w : World) (hv : w.cell? pt = some v) (hp : w.cell? pp = some (.int .i64 p)) (hL : LstI B w v ts) (hB : B ≤ w.heap.size)
    (hx : okRule e p x = true) (hl : (ts.length : Int) = e) (ht : allIn ts 0 (p - 1) = true) (p1 : 1 ≤ p) (p60 : p ≤ 60) :
    Calls Try.prog 38 #[.agg #[.int .i64 x.From, .int .i64 x.To, .int .i64 x.Least, .int .i64 x.Most], .pointer (some pt), .pointer (some pp)] w fun e w' => e = .returned (.int .i64 (waitR p ts x)) ∧ Below w.heap.size w w' := by
  obtain ⟨fi, ti, yf, yt, F, hw⟩ := fits_of hx hl ht
  rw [hw]
  obtain ⟨a, cap, rfl, hl2, _, _, hc⟩ := hL.at_
  obtain ⟨b, o, y1, rfl, hb, hy1, q1⟩ := hc fi F.fl
  obtain ⟨b', o', y2, hbo, hb2, hy2, q2⟩ := hc ti F.tl
  injection hbo with hbo
  injection hbo with h1 h2 h3
  subst h1 h2
  obtain rfl : y1 = yf := by have := F.gf; rw [hy1] at this; exact Option.some.inj this
  obtain rfl : y2 = yt := by have := F.gt; rw [hy2] at this; exact Option.some.inj this
  have hfl := F.fl
  have htl := F.tl
  have f0 := F.f0
  have f1 := F.f1
  have t0 := F.t0
  have t1 := F.t1
  have l0 := F.l0
  have l1 := F.l1
  rw [F.f, F.t]
  clear hc hy1 hy2 h3 hL hx ht hw F
  generalize x.Least = le at *
  generalize x.Most = mo at *
  generalize ts.length = n at *
  unfold maxLen at hl2
  have bv := World.block_lt_of_cell? w pt hv
  have bp := World.block_lt_of_cell? w pp hp
  have hW : Whole (w.alloc (.cells #[.int .i64 fi, .int .i64 ti, .int .i64 le, .int .i64 mo] 44)) w.heap.size 44 _ := Whole.made w _ _ rfl
  have hB2 : Below w.heap.size w (w.alloc (.cells #[.int .i64 fi, .int .i64 ti, .int .i64 le, .int .i64 mo] 44)) := below_alloc (Below.refl _ _) _
  go_enter Try.func38, Try.ntmps38
  go_wp2_with fail
  generalize (w.alloc (.cells #[.int .i64 fi, .int .i64 ti, .int .i64 le, .int .i64 mo] 44)) = W2 at *
  have m0 := hW.at_ (i := 0) rfl
  have m1 := hW.at_ (i := 1) rfl
  have m2 := hW.at_ (i := 2) rfl
  have m3 := hW.at_ (i := 3) rfl
  rw [← hB2.cell (p := pt) bv] at hv
  rw [← hB2.cell (p := pp) bp] at hp
  rw [← hB2.cell (p := ⟨b, o + fi, none⟩) (show b < w.heap.size by omega)] at q1
  rw [← hB2.cell (p := ⟨b, o + ti, none⟩) (show b < w.heap.size by omega)] at q2
  have hw1 : IntKind.i64.wrap (y2 - y1) = y2 - y1 := IntWalk.i64_in _ (by omega)
  have hw2 : IntKind.i64.wrap (y2 - y1 - le) = y2 - y1 - le := IntWalk.i64_in _ (by omega)
  have hR := remG_in (x := y2 - y1 - le) p1
  have hC := Lib.hid (fun w' => remainderOf_any (y2 - y1 - le) p w' p1 p60)
  have hfi : (fi : Int) < (n : Int) := by omega
  have hti : (ti : Int) < (n : Int) := by omega
  obtain ⟨rr, hrr⟩ : ∃ R, remG (y2 - y1 - le) p = R := ⟨_, rfl⟩
  rw [hrr] at hC hR
  have hw3 : IntKind.i64.wrap (le + rr) = le + rr := IntWalk.i64_in _ (by omega)
  clear hW
  go_quiet ((go_at_call 39; exact Ret.quiet (Ret.same (hC.out _))))
  go_wp2
  go_ret
  exact ⟨ret_int (by rw [hrr]), by first | exact hB2 | exact below_drew hB2 _ | (repeat (first | exact hB2 | refine below_drew ?_ _))⟩
set_option maxHeartbeats 2000000 in
theorem l05Wait_any (B : Nat) (e p : Int) (x : RuleD) (v : Value) (ts : List Int) (br or_ : Nat) (w : World) (h0 : w.cell? ⟨br, or_, none⟩ = some (.int .i64 x.From)) (h1 : w.cell? ⟨br, or_ + 1, none⟩ = some (.int .i64 x.To)) (h2 : w.cell? ⟨br, or_ + 2, none⟩ = some (.int .i64 x.Least)) (hL : LstI B w v ts)
    (hx : okRule e p x = true) (hl : (ts.length : Int) = e) (ht : allIn ts 0 (p - 1) = true) (p1 : 1 ≤ p) (p60 : p ≤ 60) :
    Calls Try.prog 32 #[.pointer (some ⟨br, or_, none⟩), .int .i64 p, v] w (Ret (.int .i64 (waitR p ts x)) w) := by
  obtain ⟨fi, ti, yf, yt, F, hw⟩ := fits_of hx hl ht
  rw [hw]
  obtain ⟨a, cap, rfl, hl2, _, _, hc⟩ := hL.at_
  obtain ⟨b, o, y1, rfl, hb, hy1, q1⟩ := hc fi F.fl
  obtain ⟨b', o', y2, hbo, hb2, hy2, q2⟩ := hc ti F.tl
  injection hbo with hbo
  injection hbo with h1' h2' h3'
  subst h1' h2'
  obtain rfl : y1 = yf := by have := F.gf; rw [hy1] at this; exact Option.some.inj this
  obtain rfl : y2 = yt := by have := F.gt; rw [hy2] at this; exact Option.some.inj this
  have hfl := F.fl
  have htl := F.tl
  have f0 := F.f0
  have f1 := F.f1
  have t0 := F.t0
  have t1 := F.t1
  have l0 := F.l0
  have l1 := F.l1
  rw [F.f] at h0
  rw [F.t] at h1
  clear hc hy1 hy2 h3' hL hx ht hw F
  generalize x.Least = le at *
  generalize ts.length = n at *
  unfold maxLen at hl2
  have hw1 : IntKind.i64.wrap (y2 - y1) = y2 - y1 := IntWalk.i64_in _ (by omega)
  have hw2 : IntKind.i64.wrap (y2 - y1 - le) = y2 - y1 - le := IntWalk.i64_in _ (by omega)
  have hR := remG_in (x := y2 - y1 - le) p1
  have a1 := tmod_in (x := y2 - y1 - le) p1
  obtain ⟨D, hD⟩ : ∃ D, y2 - y1 - le = D := ⟨_, rfl⟩
  rw [hD] at hR a1 hw2 ⊢
  obtain ⟨A, hA⟩ : ∃ A, D.tmod p = A := ⟨_, rfl⟩
  obtain ⟨rr, hrr⟩ : ∃ R, remG D p = R := ⟨_, rfl⟩
  have hp0 : ¬ p = 0 := by omega
  have hpb : (p == 0) = false := by simpa using hp0
  rw [hrr] at hR ⊢
  rw [hA] at a1
  have hv2 : IntKind.i64.wrap A = A := IntWalk.i64_in _ (by omega)
  have hv1 : IntKind.i64.wrap (D.tmod p) = A := by rw [hA]; exact hv2
  have hv3 : IntKind.i64.wrap (A + p) = A + p := IntWalk.i64_in _ (by omega)
  have hv4 : (A + p).tmod p = rr := by rw [← hA, tm_eq2 p1, hrr]
  have hv5 : (A + p) % p = rr := by rw [← hA, tm_eq, hrr]
  have hv6 : IntKind.i64.wrap rr = rr := IntWalk.i64_in _ (by omega)
  have hw3 : IntKind.i64.wrap (le + rr) = le + rr := IntWalk.i64_in _ (by omega)
  have hfi : (fi : Int) < (n : Int) := by omega
  have hti : (ti : Int) < (n : Int) := by omega
  clear hrr
  go_enter Try.func32, Try.ntmps32
  go_wp2_with fail
  go_quiet (fail)
  go_wp2_with fail
  go_quiet (fail)
  go_wp2
  go_ret
  exact ⟨_, rfl, by first | rfl | exact World.drewN_drewN .. | rw [World.drewN_drewN]⟩
end Go.Proofs.Ytncbjdkidkklgaa
