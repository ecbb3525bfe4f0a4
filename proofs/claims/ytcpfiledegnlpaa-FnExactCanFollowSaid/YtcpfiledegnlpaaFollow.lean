/- Contracts: which trips can follow which ones, both builds together. -/
import Derived.Test.YtcpfiledegnlpaaMoveBy
import Derived.Test.YtcpfiledegnlpaaBools
import Derived.Test.YtcpfiledegnlpaaPost
namespace Go.Proofs.Ytcpfiledegnlpaa
open Go.RowKit Go.Lst

def fillB (f : Nat → Bool) (k : Nat) : List Bool := (List.range k).map f
theorem fillB_succ (f : Nat → Bool) (k : Nat) : fillB f (k + 1) = fillB f k ++ [f k] := by unfold fillB; rw [List.range_succ, List.map_append]; rfl
theorem fillB_length (f : Nat → Bool) (k : Nat) : (fillB f k).length = k := by simp [fillB]
theorem one_bool (x : Bool) : ∀ u ∈ [Value.bool x], u.oneCell' = true := by simp [Value.oneCell']
theorem infoB : (Try.prog.info? 4).map (fun i => (i.zero, i.size, i.bytes)) = some (some (.bool false), 1, 1) := by kernel_rfl
theorem newsB (w : World) (t : TypeId) (u : Value) : ∀ (j : Nat) (x : Value), [u][j]? = some x → (w.alloc (.cells #[u] t)).cell? ((⟨w.heap.size, 0, none⟩ : Addr).add j) = some x := fun j x hj => by
  match j, hj with
  | 0, hj =>
    obtain rfl : u = x := by simpa using hj
    exact (Whole.made w t #[u] rfl).at_ rfl
  | j + 1, hj => simp at hj
theorem growB_le {B : Nat} {w : World} (h : B ≤ w.heap.size) (o : Obj) : B ≤ (w.alloc o).heap.size := by simp; omega
theorem belowB_app {B C n k : Nat} {w wr w6 : World} {o : Obj} {v : Value} {cs : List Value} {e : TypeId} (hb : Below B w wr) (hO : wr.ownsRow C e k v n cs) (hg : (wr.alloc o).grownBy w6 v.ownBlock) (hB : B ≤ wr.heap.size) (hC : B ≤ C) : Below B w w6 :=
  (hb.alloc hB o).grown hg (growB_le hB o) fun k hk => Nat.le_trans hC (hO.lt k hk).1
/-- A block of another type is not the row's. -/
theorem row_apart {w : World} {A k n gx : Nat} {e t : TypeId} {v : Value} {cs : List Value} {cx : Array Value} (h : w.ownsRow A e k v n cs) (hx : Whole w gx t cx) (ht : t ≠ e) : some gx ≠ v.ownBlock := by
  rcases h.2 with ⟨rfl, _⟩ | ⟨g, cap, cur, rfl, _, hg, _⟩
  · intro h0; cases h0
  · intro h0
    have h1 : gx = g := Option.some.inj h0
    subst h1
    have h2 : w.heap[gx]? = some (.cells cx t (0, 0)) := hx
    rw [h2] at hg
    injection hg with hg
    injection hg with _ h3 _
    exact ht h3
def BoolsPost (r : List Bool) (ok : Bool) (w : World) (e : Ending) (w' : World) : Prop :=
  ∃ v', e = .returned (.tuple #[v', .bool ok]) ∧ Own w.heap.size w'.heap.size w' v' 4 1 r.length (r.map Value.bool) ∧ Below w.heap.size w w'
theorem bools_no {r : List Bool} {ok : Bool} {w w' : World} (h1 : r = []) (h2 : ok = false) (hb : Below w.heap.size w w') : BoolsPost r ok w (.returned (.tuple #[.slice none 0 0, .bool false])) w' := by
  subst h1 h2
  exact ⟨_, rfl, own_nil, hb⟩
theorem bools_yes {r : List Bool} {ok : Bool} {v : Value} {w w' : World} {A n : Nat} (h2 : ok = true) (hA : w.heap.size ≤ A) (hn : r.length = n) (ho : w'.ownsRow A 4 1 v n (r.map Value.bool)) (hm : n ≤ 1048576) (hb : Below w.heap.size w w') : BoolsPost r ok w (.returned (.tuple #[v, .bool true])) w' := by
  subst h2 hn
  exact ⟨_, rfl, (Own.new ho (by unfold maxLen; omega)).mono hA (Nat.le_refl _), hb⟩
def folPl (xs : List TripD) (ms : List Int) (p : Nat) : Bool := folT ms (xs.getD (p / xs.length) default) (xs.getD (p % xs.length) default)
theorem getTr_of {xs : List TripD} {k : Nat} {x : TripD} (h : xs[k]? = some x) : xs.getD k default = x := by rw [List.getD_eq_getElem?_getD, h]; rfl
theorem folPl_at {xs : List TripD} {ms : List Int} {i k : Nat} {x y : TripD} (hx : xs[i]? = some x) (hy : xs[k]? = some y) : folPl xs ms (i * xs.length + k) = folT ms x y := by
  have hk : k < xs.length := (List.getElem?_eq_some_iff.1 hy).1
  unfold folPl
  rw [Nat.mul_comm i, Nat.mul_add_div (by omega), Nat.div_eq_of_lt hk, Nat.add_zero, Nat.mul_add_mod, Nat.mod_eq_of_lt hk, getTr_of hx, getTr_of hy]
def canF (xs : List TripD) (ms : List Int) : Bool := areTrips xs && okMoves ms
def folRes (xs : List TripD) (ms : List Int) : List Bool := if canF xs ms then fillB (folPl xs ms) (xs.length * xs.length) else []
theorem folRes_no {xs : List TripD} {ms : List Int} (h : canF xs ms = false) : folRes xs ms = [] := by unfold folRes; rw [h]; rfl
theorem folRes_yes {xs : List TripD} {ms : List Int} (h : canF xs ms = true) : folRes xs ms = fillB (folPl xs ms) (xs.length * xs.length) := by unfold folRes; rw [h]; rfl
theorem move_in {ms : List Int} (h : okMoves ms = true) {x y : TripD} (h1 : 0 ≤ x.To ∧ x.To ≤ 7) (h2 : 0 ≤ y.From ∧ y.From ≤ 7) : 0 ≤ moveOf ms x y ∧ moveOf ms x y ≤ 1000 := by
  obtain ⟨hl, hr, _⟩ := okMoves_of h
  have hk : (x.To * 8 + y.From).toNat < ms.length := by omega
  have e : ms[(x.To * 8 + y.From).toNat]? = some ms[(x.To * 8 + y.From).toNat] := List.getElem?_eq_getElem _
  unfold moveOf
  rw [getD_of e]
  exact hr _ _ e
theorem sq_fit {n i k : Nat} (hi : i < n) (hk : k < n) (hn : n ≤ 24) : i * n + k + 1 ≤ 576 := by
  have h1 : i * n + n ≤ n * n := by have := Nat.mul_le_mul_right n (show i + 1 ≤ n from hi); rw [Nat.add_mul, Nat.one_mul] at this; exact this
  have h2 := Nat.mul_le_mul hn hn
  omega
set_option maxHeartbeats 4000000 in
set_option maxRecDepth 100000 in
theorem implCanFollow_any (B : Nat) (v1 v2 : Value) (xs : List TripD) (ms : List Int) (w : World) (h1 : LstTrip B w v1 xs) (h2 : LstI B w v2 ms) (hB : B ≤ w.heap.size) :
    Calls Try.prog 26 #[v1, v2] w (BoolsPost (folRes xs ms) (canF xs ms) w) := by
  have hA := Lib.hid (areTrips_any B v1 xs w h1 hB)
  have hMv := Lib.hid (fun w1 (hb : Below w.heap.size w w1) => areMoves_any B v2 ms w1 (h2.below hb hB) (Nat.le_trans hB hb.size))
  have hFb := Lib.hid (fun w1 (hb : Below w.heap.size w w1) (hl : ms.length = 64) => followBy_any B v2 ms w1 (h2.below hb hB) hl)
  have hNo : Hid (canF xs ms = false → ∀ w', Below w.heap.size w w' → BoolsPost (folRes xs ms) (canF xs ms) w (.returned (.tuple #[.slice none 0 0, .bool false])) w') := Lib.hid fun h w' hb => bools_no (folRes_no h) h hb
  have hYes : Hid (canF xs ms = true → ∀ (w' : World) (v : Value) (A : Nat), w.heap.size ≤ A → w'.ownsRow A 4 1 v (xs.length * xs.length) ((fillB (folPl xs ms) (xs.length * xs.length)).map Value.bool) → xs.length ≤ 24 → Below w.heap.size w w' → BoolsPost (folRes xs ms) (canF xs ms) w (.returned (.tuple #[v, .bool true])) w') := Lib.hid fun h w' v A hA ho hn hb => by
    rw [folRes_yes h]
    exact bools_yes h hA (fillB_length _ _) ho (by have := Nat.mul_le_mul hn hn; omega) hb
  obtain ⟨a1, cap1, rfl, hl, _, _, hc⟩ := h1.at_
  obtain ⟨a2, cap2, rfl, hl2, _⟩ := h2.at_
  have hPl : Hid (∀ i k x y, xs[i]? = some x → xs[k]? = some y → folPl xs ms (i * xs.length + k) = folT ms x y) := Lib.hid fun i k x y => folPl_at
  have hC := Lib.hid hc
  clear h1 h2 hc
  generalize BoolsPost (folRes xs ms) (canF xs ms) w = Q at *
  cases e1 : areTrips xs
  · rw [e1] at hA
    have hR := Lib.hid (hNo.out (by simp [canF, e1]))
    clear hMv hFb hNo hYes hPl hC e1
    generalize xs.length = n at *
    generalize ms.length = m at *
    unfold maxLen at hl hl2
    go_enter Try.func26, Try.ntmps26
    go_wp2_with (go_at_call 17; (with_reducible refine (hA.out).mono ?_); rintro e w1 ⟨rfl, hb1⟩; have hB1 := Lib.hid hb1; clear hb1)
    first | exact hR.out _ hB1.out | (go_ret2; exact hR.out _ hB1.out)
  rw [e1] at hA
  cases e2 : okMoves ms
  · rw [e2] at hMv
    have hR := Lib.hid (hNo.out (by simp [canF, e2]))
    clear hFb hNo hYes hPl hC e1 e2
    generalize xs.length = n at *
    generalize ms.length = m at *
    unfold maxLen at hl hl2
    go_enter Try.func26, Try.ntmps26
    go_wp2_with (first | (go_at_call 17; (with_reducible refine (hA.out).mono ?_); rintro e w1 ⟨rfl, hb1⟩; have hB1 := Lib.hid hb1; clear hb1) | (go_at_call 23; (with_reducible refine (hMv.out w1 hB1.out).mono ?_); rintro e w2 ⟨rfl, hb2⟩; have hB2 := Lib.hid (below_on hB1.out (Nat.le_refl _) hb2); clear hb2))
    first | exact hR.out _ hB2.out | (go_ret2; exact hR.out _ hB2.out)
  rw [e2] at hMv
  obtain ⟨n1, n24, hok⟩ := areTrips_of e1
  have hl64 := (okMoves_of e2).1
  have hY := Lib.hid (fun w' v A hA ho hb => hYes.out (by simp [canF, e1, e2]) w' v A hA ho n24 hb)
  have hFb2 := Lib.hid (fun w1 hb => hFb.out w1 hb hl64)
  have hFol : Hid (∀ (g : Nat) (x y : TripD) (i k : Nat) (W : World), xs[i]? = some x → xs[k]? = some y → Whole W g 107 (tabOf ms) → W.cell? ⟨g + 1, 0, none⟩ = some (.func (.func 87) #[] #[.pointer (some ⟨g, 0, none⟩)]) → Calls Try.prog 79 #[.agg #[.int .i64 x.Start, .int .i64 x.End, .int .i64 x.From, .int .i64 x.To], .agg #[.int .i64 y.Start, .int .i64 y.End, .int .i64 y.From, .int .i64 y.To], .pointer (some ⟨g + 1, 0, none⟩)] W fun e w' => e = .returned (.bool (folT ms x y)) ∧ Below W.heap.size W w') := Lib.hid fun g x y i k W hx hy hW hg => by
    have ox := okTrip_of (hok i x hx)
    have oy := okTrip_of (hok k y hy)
    exact follow_any g ms x y W hW hg hl64 (move_in e2 ox.2.2.2.2 oy.2.2.2.1) ox.2.2.2.2 oy.2.2.2.1 ox.2.1
  have hFs := Lib.hid (fillB_succ (folPl xs ms))
  obtain ⟨i0, hi, hz0, hz1, hz2⟩ := info_parts infoB
  generalize folPl xs ms = F at *
  generalize hTb : tabOf ms = tab at *
  clear hFb hNo hYes e1 e2 hok hl64 hTb
  generalize xs.length = n at *
  generalize ms.length = m at *
  have hNn : Hid (∀ i, (i + 1) * n = i * n + n) := Lib.hid fun i => by rw [Nat.add_mul, Nat.one_mul]
  unfold maxLen at hl hl2
  go_enter Try.func26, Try.ntmps26
  go_wp2_with (first | (go_at_call 17; (with_reducible refine (hA.out).mono ?_); rintro e w1 ⟨rfl, hb1⟩; have hB1 := Lib.hid hb1; clear hb1) | (go_at_call 23; (with_reducible refine (hMv.out w1 hB1.out).mono ?_); rintro e w2 ⟨rfl, hb2⟩; have hB2 := Lib.hid (below_on hB1.out (Nat.le_refl _) hb2); clear hb2) | (go_at_call 61; (with_reducible refine (hFb2.out w2 hB2.out).mono ?_); rintro e w3 ⟨rfl, rfl⟩))
  have hB3 := Lib.hid ((hB2.out.alloc hB2.out.size (.cells tab 107)).alloc (growB_le hB2.out.size _) (.cells #[.func (.func 87) #[] #[.pointer (some ⟨w2.heap.size, 0, none⟩)]] 92))
  have hTab := Lib.hid ((Whole.made w2 107 tab rfl).more (.cells #[.func (.func 87) #[] #[.pointer (some ⟨w2.heap.size, 0, none⟩)]] 92))
  have hFn := Lib.hid (Whole.made (w2.alloc (.cells tab 107)) 92 #[.func (.func 87) #[] #[.pointer (some ⟨w2.heap.size, 0, none⟩)]] (b := w2.heap.size + 1) (by simp))
  generalize (w2.alloc (.cells tab 107)).alloc (.cells #[.func (.func 87) #[] #[.pointer (some ⟨w2.heap.size, 0, none⟩)]] 92) = w6 at *
  generalize w2.heap.size = g at *
  have hFl : Hid (∀ (x y : TripD) (i k : Nat) (W : World), xs[i]? = some x → xs[k]? = some y → Below w6.heap.size w6 W → Calls Try.prog 79 #[.agg #[.int .i64 x.Start, .int .i64 x.End, .int .i64 x.From, .int .i64 x.To], .agg #[.int .i64 y.Start, .int .i64 y.End, .int .i64 y.From, .int .i64 y.To], .pointer (some ⟨g + 1, 0, none⟩)] W fun e w' => e = .returned (.bool (folT ms x y)) ∧ Below W.heap.size W w') := Lib.hid fun x y i k W hx hy hb => hFol.out g x y i k W hx hy (hTab.out.kept hb) ((hFn.out.kept hb).at_ (i := 0) rfl)
  clear hFol hTab hFn hB1 hA hMv hFb2
  go_loopw [7, 24] (fun gv iv wr => ∃ (i : Nat), i ≤ n ∧ iv = .int .i64 i ∧ Hid (wr.ownsRow w6.heap.size 4 1 gv (i * n) ((fillB F (i * n)).map Value.bool)) ∧ Hid (Below w6.heap.size w6 wr)) (fun _ iv _ => n - (intOf iv).toNat)
  case atStart => exact ⟨0, Nat.zero_le _, rfl, Lib.hid ⟨by rw [Nat.zero_mul]; rfl, .inl ⟨rfl, by rw [Nat.zero_mul]⟩⟩, Lib.hid (Below.refl _ _)⟩
  case round =>
    obtain ⟨i, hi0, rfl, hO, hB7⟩ := hrel
    by_cases hlt : i < n
    · have hNx := Lib.hid (hNn.out i)
      obtain ⟨b1, o1, x, rfl, hb1, hx, r0, r1, r2, r3⟩ := hC.out i hlt
      have hXx := Lib.hid hx
      have hbw : b1 < w.heap.size := by omega
      have hBw := Lib.hid (hB3.out.trans (hB7.out.mono hB3.out.size))
      rw [← hBw.out.cell (p := ⟨b1, o1 + i * 4, none⟩) hbw] at r0
      rw [← hBw.out.cell (p := ⟨b1, o1 + i * 4 + 1, none⟩) hbw] at r1
      rw [← hBw.out.cell (p := ⟨b1, o1 + i * 4 + 2, none⟩) hbw] at r2
      rw [← hBw.out.cell (p := ⟨b1, o1 + i * 4 + 3, none⟩) hbw] at r3
      have hFit : Hid (∀ k, k < n → i * n + k + 1 ≤ 576) := Lib.hid fun k hk => sq_fit hlt hk n24
      have hPli : Hid (∀ k y, xs[k]? = some y → F (i * n + k) = folT ms x y) := Lib.hid fun k y hy => hPl.out i k x y hXx.out hy
      have hFli := Lib.hid (fun y k W hy hb => hFl.out x y i k W hXx.out hy hb)
      obtain ⟨xs0, xe0, xf0, xt0⟩ := x
      simp only at r0 r1 r2 r3
      generalize htn : i * n = tn at *
      clear hx hBw
      go_wp2_with fail
      clear r0 r1 r2 r3
      have hX9 := Lib.hid (Whole.made wr 68 #[.int .i64 xs0, .int .i64 xe0, .int .i64 xf0, .int .i64 xt0] (b := wr.heap.size) rfl)
      have hO9 := Lib.hid (hO.out.alloc (.cells #[.int .i64 xs0, .int .i64 xe0, .int .i64 xf0, .int .i64 xt0] 68))
      have hB9 := Lib.hid (hB7.out.alloc hB7.out.size (.cells #[.int .i64 xs0, .int .i64 xe0, .int .i64 xf0, .int .i64 xt0] 68))
      generalize wr.alloc (.cells #[.int .i64 xs0, .int .i64 xe0, .int .i64 xf0, .int .i64 xt0] 68) = w9 at *
      generalize wr.heap.size = gx at *
      clear hO hB7
      go_loopw [7, 30] (fun gv kv wr => ∃ (k : Nat), k ≤ n ∧ kv = .int .i64 k ∧ Hid (wr.ownsRow w6.heap.size 4 1 gv (tn + k) ((fillB F (tn + k)).map Value.bool)) ∧ Hid (Below w6.heap.size w6 wr) ∧ Hid (Whole wr gx 68 #[.int .i64 xs0, .int .i64 xe0, .int .i64 xf0, .int .i64 xt0])) (fun _ kv _ => n - (intOf kv).toNat)
      case atStart => exact ⟨0, Nat.zero_le _, rfl, hO9, hB9, hX9⟩
      case round =>
        clear hO9 hB9 hX9
        obtain ⟨k, hk0, rfl, hO, hB7, hX⟩ := hrel
        by_cases hlk : k < n
        · have hfit := hFit.out k hlk
          obtain ⟨b2, o2, y, hbo, hb2, hy, r0, r1, r2, r3⟩ := hC.out k hlk
          cases hbo
          have hYy := Lib.hid hy
          have hBw := Lib.hid (hB3.out.trans (hB7.out.mono hB3.out.size))
          rw [← hBw.out.cell (p := ⟨b1, o1 + k * 4, none⟩) hbw] at r0
          rw [← hBw.out.cell (p := ⟨b1, o1 + k * 4 + 1, none⟩) hbw] at r1
          rw [← hBw.out.cell (p := ⟨b1, o1 + k * 4 + 2, none⟩) hbw] at r2
          rw [← hBw.out.cell (p := ⟨b1, o1 + k * 4 + 3, none⟩) hbw] at r3
          have hpl := Lib.hid (hPli.out k y hYy.out)
          have hFk := Lib.hid (fun W hb => hFli.out y k W hYy.out hb)
          generalize folT ms ⟨xs0, xe0, xf0, xt0⟩ y = q at *
          obtain ⟨ys0, ye0, yf0, yt0⟩ := y
          simp only at r0 r1 r2 r3 hFk
          have hO1 := Lib.hid (hO.out.alloc (.cells #[.int .i64 ys0, .int .i64 ye0, .int .i64 yf0, .int .i64 yt0] 68))
          have hB1 := Lib.hid (hB7.out.alloc hB7.out.size (.cells #[.int .i64 ys0, .int .i64 ye0, .int .i64 yf0, .int .i64 yt0] 68))
          have hX1 := Lib.hid (hX.out.more (.cells #[.int .i64 ys0, .int .i64 ye0, .int .i64 yf0, .int .i64 yt0] 68))
          have x0 := hX1.out.at_ (i := 0) rfl
          have x1 := hX1.out.at_ (i := 1) rfl
          have x2 := hX1.out.at_ (i := 2) rfl
          have x3 := hX1.out.at_ (i := 3) rfl
          clear hy hb2 hBw
          go_wp2_with (first | (go_at_call 79; (with_reducible refine (hFk.out _ hB1.out).mono ?_); rintro e w5 ⟨rfl, hb5⟩; have hO5 := Lib.hid (ownsRow_kept hO1.out hb5); have hB5 := Lib.hid (below_on hB1.out (Nat.le_refl _) hb5); have hX5 := Lib.hid (hX1.out.kept hb5); clear hb5 x0 x1 x2 x3 r0 r1 r2 r3) | (at_builtin; refine wpList_append_own _ rfl _ _ _ rfl w6.heap.size 4 i0 (.bool false) 1 1 Try.underlying34 hi hz0 hz1 hz2 rfl (by decide) _ (tn + k) _ rfl (hO5.out.alloc _) ⟨w5.heap.size, 0, none⟩ 1 1 [.bool q] rfl rfl (newsB w5 _ _) (one_bool _) (by unfold maxLen; omega) (by omega) (growB_le hB5.out.size _) ?_; intro v8 w8 hown8 hgrow8 hnil8; have hB8 := Lib.hid (belowB_app hB5.out hO5.out hgrow8 hB5.out.size (Nat.le_refl _)); have hX8 := Lib.hid ((hX5.out.more _).beside hgrow8 (row_apart hO5.out hX5.out (by decide))); have hO8 := Lib.hid (show w8.ownsRow w6.heap.size 4 1 v8 (tn + (k + 1)) ((fillB F (tn + (k + 1))).map Value.bool) by rw [← Nat.add_assoc, hFs.out, List.map_append, hpl.out]; exact hown8); clear hown8 hgrow8 hnil8))
          go_roundw
          case rel => exact ⟨k + 1, by omega, by go_num, hO8, hB8, hX8⟩
          case measure => simp [intOf]; omega
        · obtain rfl : n = k := by omega
          have hO9 := hO.out
          rw [← hNx.out] at hO9
          have hO10 := Lib.hid hO9
          clear hO9 hO
          go_wp2_with fail
          go_roundw
          case rel => exact ⟨i + 1, by omega, by go_num, hO10, hB7⟩
          case measure => simp [intOf]; omega
    · obtain rfl : n = i := by omega
      have hR := Lib.hid (hY.out wr _ w6.heap.size hB3.out.size hO.out (hB3.out.trans (hB7.out.mono hB3.out.size)))
      clear hO hB7
      go_wp2_with fail
      first | exact hR.out | (go_ret2; exact hR.out)
end Go.Proofs.Ytcpfiledegnlpaa
