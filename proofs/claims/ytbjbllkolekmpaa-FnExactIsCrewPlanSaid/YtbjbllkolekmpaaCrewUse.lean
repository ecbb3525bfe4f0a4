/- Contracts: how much of the crew is used at each time. -/
import Derived.Test.YtbjbllkolekmpaaDoneBy
import Derived.StillTailTactics
import Derived.Laws.MakeOwn
namespace Go.Proofs.Ytbjbllkolekmpaa
open Go.RowKit Go.Lst

/-- So many numbers from the place s on become greater. -/
def putUse (u : List Int) (s : Nat) (nd : Int) : Nat → List Int
  | 0 => u
  | d + 1 => (putUse u s nd d).set (s + d) ((putUse u s nd d).getD (s + d) 0 + nd)
theorem putUse_length (u : List Int) (s : Nat) (nd : Int) : ∀ d, (putUse u s nd d).length = u.length
  | 0 => rfl
  | d + 1 => by unfold putUse; rw [List.length_set, putUse_length u s nd d]
theorem getD_put {b : List Int} {j : Nat} (y : Int) (hj : j < b.length) (k : Nat) : (b.set j y).getD k 0 = if j = k then y else b.getD k 0 := by
  rw [List.getD_eq_getElem?_getD, List.getD_eq_getElem?_getD, List.getElem?_set]
  by_cases h : j = k
  · subst h; simp [hj]
  · simp [h]
theorem putUse_at (u : List Int) (s : Nat) (nd : Int) : ∀ d, s + d ≤ u.length → ∀ i, (putUse u s nd d).getD i 0 = if s ≤ i ∧ i < s + d then u.getD i 0 + nd else u.getD i 0
  | 0, _, i => by rw [if_neg (by omega)]; rfl
  | d + 1, h, i => by
    have ih := putUse_at u s nd d (by omega)
    unfold putUse
    rw [getD_put _ (by rw [putUse_length]; omega), ih, ih]
    by_cases e : s + d = i
    · subst e; rw [if_pos rfl, if_neg (by omega), if_pos (by omega)]
    · rw [if_neg e]
      by_cases h2 : s ≤ i ∧ i < s + d
      · rw [if_pos h2, if_pos (by omega)]
      · rw [if_neg h2, if_neg (by omega)]
def useTo (xs : List TaskD) (st : List Int) (E : Nat) : Nat → List Int
  | 0 => List.replicate E 0
  | k + 1 => putUse (useTo xs st E k) (st.getD k 0).toNat (xs.getD k default).Needs (xs.getD k default).Time.toNat
theorem useTo_length (xs : List TaskD) (st : List Int) (E : Nat) : ∀ k, (useTo xs st E k).length = E
  | 0 => by simp [useTo]
  | k + 1 => by unfold useTo; rw [putUse_length, useTo_length xs st E k]
def useOk (xs : List TaskD) (st : List Int) : Bool := startsOk xs st && decide (endOf xs st ≤ 400)
def useRes (xs : List TaskD) (st : List Int) : List Int := if useOk xs st then useTo xs st (endOf xs st).toNat xs.length else []
theorem useOk_of {xs : List TaskD} {st : List Int} (h : useOk xs st = true) : AreT xs ∧ st.length = xs.length ∧ allIn st 0 100000 = true ∧ startsOk xs st = true ∧ 0 ≤ endOf xs st ∧ endOf xs st ≤ 400 := by
  simp only [useOk, Bool.and_eq_true, decide_eq_true_eq] at h
  obtain ⟨a, b, c⟩ := startsOk_of h.1
  have hT := areTasks_iff.1 a
  exact ⟨hT, b, c, h.1, (endTo_bound hT.fit (starts_bnd c) (by omega) _).1, h.2⟩
theorem useRes_yes {xs : List TaskD} {st : List Int} (h : useOk xs st = true) : useRes xs st = useTo xs st (endOf xs st).toNat xs.length := by unfold useRes; rw [h, if_pos rfl]
theorem useRes_length (xs : List TaskD) (st : List Int) : (useRes xs st).length ≤ 1048576 := by
  unfold useRes
  split
  · rename_i h
    have := useOk_of h
    rw [useTo_length]; omega
  · simp
/-- A task's place among the times. -/
theorem use_fit {xs : List TaskD} {st : List Int} (h : useOk xs st = true) {k : Nat} {x : TaskD} (hx : xs[k]? = some x) : ∃ s t : Nat, st[k]? = some (s : Int) ∧ x.Time = (t : Int) ∧ s + t ≤ (endOf xs st).toNat ∧ t ≤ 100 ∧ 0 ≤ x.Needs ∧ x.Needs ≤ 20 ∧
    useTo xs st (endOf xs st).toNat (k + 1) = putUse (useTo xs st (endOf xs st).toNat k) s x.Needs t := by
  obtain ⟨hT, hl, hs, -, e0, e1⟩ := useOk_of h
  have hk : k < xs.length := (List.getElem?_eq_some_iff.1 hx).1
  have e : st[k]? = some st[k] := List.getElem?_eq_getElem (by omega)
  have hb := allIn_of hs e
  have ht := hT.each k x hx
  obtain ⟨s, hs'⟩ := Int.eq_ofNat_of_zero_le hb.1
  obtain ⟨t, ht'⟩ := Int.eq_ofNat_of_zero_le ht.time.1
  rw [hs'] at e
  have hg := endTo_ge xs st (k := xs.length) (j := k) hk
  rw [getD_some hx, getD_some e, ht'] at hg
  have hE : endOf xs st = endTo xs st xs.length := rfl
  refine ⟨s, t, e, ht', by omega, by have := ht.time.2; omega, ht.needs.1, ht.needs.2, ?_⟩
  show putUse _ (st.getD k 0).toNat (xs.getD k default).Needs (xs.getD k default).Time.toNat = _
  rw [getD_some hx, getD_some e, ht', Int.toNat_natCast, Int.toNat_natCast]
theorem use_small {xs : List TaskD} {st : List Int} (h : useOk xs st = true) : ∀ k, k ≤ xs.length → ∀ i, 0 ≤ (useTo xs st (endOf xs st).toNat k).getD i 0 ∧ (useTo xs st (endOf xs st).toNat k).getD i 0 ≤ 20 * (k : Int)
  | 0, _, i => by
    unfold useTo
    rw [List.getD_eq_getElem?_getD, List.getElem?_replicate]
    split <;> simp
  | k + 1, hk, i => by
    have ih := use_small h k (by omega) i
    obtain ⟨s, t, -, -, h1, -, h3, h4, h5⟩ := use_fit h (k := k) (List.getElem?_eq_getElem (show k < xs.length by omega))
    rw [h5, putUse_at _ _ _ _ (by rw [useTo_length]; exact h1)]
    split <;> omega
theorem put_small {u : List Int} {s t : Nat} {nd X : Int} (hu : ∀ i, 0 ≤ u.getD i 0 ∧ u.getD i 0 ≤ X) (hn : 0 ≤ nd) (d : Nat) (h : s + d ≤ u.length) (i : Nat) : 0 ≤ (putUse u s nd d).getD i 0 ∧ (putUse u s nd d).getD i 0 ≤ X + nd := by
  have := hu i
  rw [putUse_at _ _ _ _ h]
  split <;> omega
theorem row_at {w : World} {A g n cap : Nat} {e : TypeId} {xs : List Int} (h : w.ownsRow A e 1 (.slice (some ⟨g, 0, none⟩) n cap) n (xs.map (Value.int .i64))) {k : Nat} (hk : k < xs.length) :
    w.cell? ⟨g, k, none⟩ = some (.int .i64 (xs.getD k 0)) := by
  have hl := h.1
  rw [List.length_map, Nat.mul_one] at hl
  have e1 : xs[k]? = some xs[k] := List.getElem?_eq_getElem _
  exact (h.cellAt k (by omega)).trans (by rw [List.getElem?_map, e1, getD_some e1]; rfl)
theorem row_put {w : World} {A g n cap : Nat} {e : TypeId} {xs : List Int} (h : w.ownsRow A e 1 (.slice (some ⟨g, 0, none⟩) n cap) n (xs.map (Value.int .i64))) (k : Nat) (x : Int) :
    (w.setCell ⟨g, k, none⟩ (.int .i64 x)).ownsRow A e 1 (.slice (some ⟨g, 0, none⟩) n cap) n ((xs.set k x).map (Value.int .i64)) ∧ w.grownBy (w.setCell ⟨g, k, none⟩ (.int .i64 x)) (some g) := by
  have := h.stored k (.int .i64 x)
  rw [List.map_set]
  exact this

set_option maxHeartbeats 4000000 in
theorem addUse_any (A g E s t n1 n2 c1 c2 : Nat) (a1 a2 : Option Addr) (nd X : Int) (u : List Int) (w : World) (h : w.ownsRow A 2 1 (.slice (some ⟨g, 0, none⟩) E E) E (u.map (Value.int .i64))) (hA : A ≤ g) (hg : g < w.heap.size) (hul : u.length = E) (hE : E ≤ 400) (hst : s + t ≤ E) (hn0 : 0 ≤ nd) (hn1 : nd ≤ 20)
    (hu : ∀ i, 0 ≤ u.getD i 0 ∧ u.getD i 0 ≤ X) (hX : X ≤ 100000) :
    Calls Try.prog 71 #[.slice (some ⟨g, 0, none⟩) E E, .agg #[.int .i64 t, .int .i64 nd, .slice a1 n1 c1, .slice a2 n2 c2], .int .i64 s, .int .i64 1] w fun e w' => e = .returned (.slice (some ⟨g, 0, none⟩) E E) ∧
      w'.ownsRow A 2 1 (.slice (some ⟨g, 0, none⟩) E E) E ((putUse u s nd t).map (Value.int .i64)) ∧ Below g w w' := by
  have hx1 := Lib.hid (Whole.made w 48 #[.int .i64 t, .int .i64 nd, .slice a1 n1 c1, .slice a2 n2 c2] rfl)
  have hb1 := Lib.hid (below_alloc (Below.refl w.heap.size w) (.cells #[.int .i64 t, .int .i64 nd, .slice a1 n1 c1, .slice a2 n2 c2] 48))
  have hO1 := Lib.hid (ownsRow_kept h hb1.out)
  have hB1 := Lib.hid (hb1.out.mono (Nat.le_of_lt hg))
  have hLn : Hid (∀ d, (putUse u s nd d).length = E) := Lib.hid fun d => (putUse_length u s nd d).trans hul
  have hSm : Hid (∀ d, d ≤ t → ∀ i, 0 ≤ (putUse u s nd d).getD i 0 ∧ (putUse u s nd d).getD i 0 ≤ X + nd) := Lib.hid fun d hd i => put_small (t := t) hu hn0 d (by omega) i
  have hSt : Hid (∀ d, putUse u s nd (d + 1) = (putUse u s nd d).set (s + d) ((putUse u s nd d).getD (s + d) 0 + nd)) := Lib.hid fun d => rfl
  have h0 : Hid (putUse u s nd 0 = u) := Lib.hid rfl
  have hw1 : IntKind.i64.wrap ((s : Int) + (t : Int)) = (s : Int) + (t : Int) := IntWalk.i64_in _ (by omega)
  have hlt1 : ¬ ((E : Int) < (s : Int) + (t : Int)) := by omega
  have hlt2 : decide ((E : Int) < (s : Int) + (t : Int)) = false := decide_eq_false hlt1
  have hgs := Lib.hid (show w.heap.size ≠ g by omega)
  clear h hu
  go_enter Try.func71, Try.ntmps71
  go_wp2_with fail
  have c0 := hx1.out.at_ (i := 0) rfl
  generalize w.alloc _ = w2 at *
  generalize hgx : w.heap.size = gx at *
  have hGX := Lib.hid hgx
  clear hgx
  go_loopw [0] (fun sv wr => sv = .slice (some ⟨g, 0, none⟩) E E ∧ wr = w2) (fun _ _ => 0)
  case atStart => exact ⟨rfl, rfl⟩
  case round =>
    obtain ⟨rfl, rfl⟩ := hrel
    go_wp2_with fail
    clear c0
    go_loopw [9] (fun tv w' => ∃ d : Nat, d ≤ t ∧ tv = .int .i64 ((s : Int) + (d : Int)) ∧ Hid (w'.ownsRow A 2 1 (.slice (some ⟨g, 0, none⟩) E E) E ((putUse u s nd d).map (Value.int .i64))) ∧ Hid (Whole w' gx 48 #[.int .i64 t, .int .i64 nd, .slice a1 n1 c1, .slice a2 n2 c2]) ∧ Hid (Below g w w')) (fun tv _ => s + t - (intOf tv).toNat)
    case atStart => exact ⟨0, Nat.zero_le _, by simp, by rw [h0.out]; exact hO1, hx1, hB1⟩
    case round =>
      clear hO1 hx1 hB1
      obtain ⟨d, hd, rfl, hO, hX', hB⟩ := hrel
      have q0 := hX'.out.at_ (i := 0) rfl
      have q1 := hX'.out.at_ (i := 1) rfl
      by_cases hlt : d < t
      · have hsm := hSm.out d hd (s + d)
        have hst2 := Lib.hid (hSt.out d)
        have hd0 : wr.cell? ⟨g, s + d, none⟩ = some (.int .i64 ((putUse u s nd d).getD (s + d) 0)) := row_at hO.out (by rw [hLn.out]; omega)
        have hf0 : wr.frozen? ⟨g, s + d, none⟩ = false := hO.out.frozenAt (s + d)
        generalize (putUse u s nd d).getD (s + d) 0 = uv at *
        have hlt3 : (s : Int) + (d : Int) < (s : Int) + (t : Int) := by omega
        have hw2 : IntKind.i64.wrap (1 * nd) = nd := by rw [Int.one_mul]; exact IntWalk.i64_in _ (by omega)
        have hw3 : IntKind.i64.wrap nd = nd := IntWalk.i64_in _ (by omega)
        have hw4 : IntKind.i64.wrap (uv + nd) = uv + nd := IntWalk.i64_in _ (by omega)
        have hw5 : IntKind.i64.wrap ((s : Int) + (d : Int) + 1) = (s : Int) + (d : Int) + 1 := IntWalk.i64_in _ (by omega)
        have hi0 : 0 ≤ (s : Int) + (d : Int) := by omega
        have hi1 : ((s : Int) + (d : Int)).toNat = s + d := by omega
        have hi2 : (s : Int) + (d : Int) < (E : Int) := by omega
        go_wp2_with fail
        go_still_tail 10, (by kernel_rfl)
        change wpList _ _ _ _ _ wr.drew
        have hO3 := show wr.drew.ownsRow _ _ _ _ _ _ from hO.out.drew
        have hB3 := hB.out.drew
        have hX3 := hX'.out.draws 1
        have hd2 : wr.drew.cell? ⟨g, s + d, none⟩ = some (.int .i64 uv) := hd0
        have hf2 : wr.drew.frozen? ⟨g, s + d, none⟩ = false := hf0
        have hX4 : Whole wr.drew gx 48 #[.int .i64 t, .int .i64 nd, .slice a1 n1 c1, .slice a2 n2 c2] := hX3
        clear hX3
        generalize wr.drew = w5 at *
        have hst' := row_put hO3 (s + d) (uv + nd)
        rw [← hst2.out] at hst'
        have hO4 := Lib.hid hst'.1
        have hB4 := Lib.hid (hB3.setCell (p := ⟨g, s + d, none⟩) (Nat.le_refl _) (.int .i64 (uv + nd)))
        have hX5 := Lib.hid (hX4.apart (p := ⟨g, s + d, none⟩) hgs.out (.int .i64 (uv + nd)))
        clear hst' hO3 hB3 hX4 hO hB hX' q0 q1 hd0 hf0
        go_wp2_with fail
        go_roundw
        case rel => exact ⟨d + 1, by omega, by go_num, hO4, hX5, hB4⟩
        case measure => simp [intOf]; omega
      · obtain rfl : t = d := by omega
        go_wp2_with fail
        go_ret
        exact ⟨rfl, hO.out, hB.out⟩
/-- What lies at place k, of tasks and starts. -/
theorem use_cells {B : Nat} {w : World} {v1 v2 : Value} {xs : List TaskD} {st : List Int} {E : Nat} (h1 : LstTask B w v1 xs) (h2 : LstI B w v2 st) (h : useOk xs st = true) (hE : (endOf xs st).toNat = E) :
    ∃ (a a2 : Option Addr) (c1 c2 : Nat), v1 = .slice a xs.length c1 ∧ v2 = .slice a2 xs.length c2 ∧ xs.length ≤ maxLen ∧ ∀ k, k < xs.length → ∃ (b o b2 o2 s t : Nat) (nd : Int) (ab al : Option Addr) (nb cb nl cl : Nat), a = some ⟨b, o, none⟩ ∧ a2 = some ⟨b2, o2, none⟩ ∧ b < B ∧ b2 < B ∧
      w.cell? ⟨b, o + k * 4, none⟩ = some (.int .i64 t) ∧ w.cell? ⟨b, o + k * 4 + 1, none⟩ = some (.int .i64 nd) ∧ w.cell? ⟨b, o + k * 4 + 2, none⟩ = some (.slice ab nb cb) ∧ w.cell? ⟨b, o + k * 4 + 3, none⟩ = some (.slice al nl cl) ∧
      w.cell? ⟨b2, o2 + k, none⟩ = some (.int .i64 s) ∧ s + t ≤ E ∧ t ≤ 100 ∧ 0 ≤ nd ∧ nd ≤ 20 ∧ useTo xs st E (k + 1) = putUse (useTo xs st E k) s nd t := by
  obtain ⟨_, hln, _⟩ := useOk_of h
  obtain ⟨a, c1, rfl, hl, _, _, hc⟩ := h1.at_
  obtain ⟨a2, c2, rfl, _, _, _, hc2⟩ := h2.at_
  refine ⟨a, a2, c1, c2, rfl, by rw [hln], hl, fun k hk => ?_⟩
  obtain ⟨b, o, x, vb, vl, rfl, hb, hx, e0, e1, e2, e3, l0, l1⟩ := hc k hk
  obtain ⟨b2, o2, s', rfl, hb2, hs', e4⟩ := hc2 k (by omega)
  obtain ⟨a5, c5, rfl, _⟩ := l0
  obtain ⟨a6, c6, rfl, _⟩ := l1
  obtain ⟨s, t, f1, f2, f3, f4, f5, f6, f7⟩ := use_fit h hx
  rw [hs'] at f1
  obtain rfl := Option.some.inj f1
  rw [hE] at f3 f7
  rw [f2] at e0
  exact ⟨b, o, b2, o2, s, t, x.Needs, _, _, _, _, _, _, rfl, rfl, hb, hb2, e0, e1, e2, e3, e4, f3, f4, f5, f6, f7⟩

set_option maxHeartbeats 4000000 in
theorem l03Use_any (B : Nat) (v1 v2 : Value) (xs : List TaskD) (st : List Int) (w : World) (h1 : LstTask B w v1 xs) (h2 : LstI B w v2 st) (hB : B ≤ w.heap.size) (h : useOk xs st = true) :
    Calls Try.prog 39 #[v1, v2] w fun e w' => ∃ v', e = .returned v' ∧ Own w.heap.size w'.heap.size w' v' 2 1 (useRes xs st).length ((useRes xs st).map (Value.int .i64)) ∧ Below w.heap.size w w' := by
  obtain ⟨hT, hl, hs, hso, e0, e1⟩ := useOk_of h
  obtain ⟨E, hE⟩ := Int.eq_ofNat_of_zero_le e0
  have hEn := Lib.hid (l03End_any B v1 v2 xs st w h1 h2 hT.fit (by omega) ((starts_bnd hs).mono (by omega) (by omega)))
  have hEt : (endOf xs st).toNat = E := by omega
  obtain ⟨a, a2, c1, c2, rfl, rfl, hml, hcells⟩ := use_cells h1 h2 h hEt
  obtain ⟨i0, hi, hz0, hz1, hz2⟩ := info_parts infoI
  have hC := Lib.hid hcells
  have hLn : Hid (∀ k, (useTo xs st E k).length = E) := Lib.hid (useTo_length xs st E)
  have hSm : Hid (∀ k, k ≤ xs.length → ∀ i, 0 ≤ (useTo xs st E k).getD i 0 ∧ (useTo xs st E k).getD i 0 ≤ 20 * (k : Int)) := Lib.hid (by rw [← hEt]; exact use_small h)
  have h0 : Hid (useTo xs st E 0 = List.replicate E 0) := Lib.hid rfl
  rw [useRes_yes h, hEt, useTo_length]
  rw [hE] at hEn e1
  have hm : xs.length ≤ 16 := hT.most
  unfold maxLen at hml
  clear h1 h2 h hT hl hs hso e0 hEt hcells hE
  generalize useTo xs st E = U at *
  generalize xs.length = n at *
  go_enter Try.func39, Try.ntmps39
  go_wp2_with fail
  refine (hEn.out).mono ?_
  rintro e w1 ⟨m, rfl, rfl⟩
  have hB1 := Lib.hid (below_drawn w m)
  have hB1s : w.heap.size ≤ (w.drewN m).heap.size := hB1.out.size
  clear hEn
  generalize w.drewN m = w1 at *
  go_wp2_with (at_make; refine wpList_make_full _ rfl _ _ _ rfl w.heap.size _ i0 (.int .i64 0) 1 Try.underlying28 hi hz0 hz1 _ _ _ _ E rfl rfl rfl rfl ?c1 ?c2 ?c3 ?_)
  case c1 => first | (rw [hz2]; omega) | omega
  case c2 => unfold maxLen; omega
  try case c3 => first | exact hB1s | exact Nat.le_refl _
  intro w0 hown0 hg0
  have hB0 := Lib.hid (show Below w.heap.size w w0 from hB1.out.grown hg0 hB1s (fun k hk => by cases hk))
  have hO := Lib.hid (zeros_own' hown0)
  have hgw := Lib.hid (show w.heap.size ≤ w1.heap.size from hB1s)
  rw [← h0.out] at hO
  clear hown0 hg0 hz0 hz1 hz2 hi
  generalize w1.heap.size = g at *
  go_wp2
  go_loopw [14] (fun i wr => ∃ k : Nat, k ≤ n ∧ i = .int .i64 k ∧ Hid (wr.ownsRow w.heap.size 2 1 (.slice (some ⟨g, 0, none⟩) E E) E ((U k).map (Value.int .i64))) ∧ Hid (Below w.heap.size w wr)) (fun i _ => n - (intOf i).toNat)
  case atStart => exact ⟨0, Nat.zero_le _, rfl, hO, hB0⟩
  case round =>
    clear hO hB0
    obtain ⟨k, hk, rfl, hO, hB0⟩ := hrel
    by_cases hlt : k < n
    · obtain ⟨b, o, b2, o2, s, t, nd, ab, al, nb, cb, nl, cl, rfl, rfl, bb, bb2, p0, p1, p2, p3, p4, hst, ht, n0, n1, hU⟩ := hC.out k hlt
      have hi1 : (k : Int) < n := by omega
      have hPl : Hid (∀ d, (putUse (U k) s nd d).length = E) := Lib.hid fun d => (putUse_length _ _ _ _).trans (hLn.out k)
      have hPs : Hid (∀ d, d ≤ t → ∀ i, 0 ≤ (putUse (U k) s nd d).getD i 0 ∧ (putUse (U k) s nd d).getD i 0 ≤ 20 * (k : Int) + nd) := Lib.hid fun d hd i => put_small (t := t) (hSm.out k hk) n0 d (by rw [hLn.out]; omega) i
      have hPt : Hid (∀ d, putUse (U k) s nd (d + 1) = (putUse (U k) s nd d).set (s + d) ((putUse (U k) s nd d).getD (s + d) 0 + nd)) := Lib.hid fun d => rfl
      have hP0 : Hid (putUse (U k) s nd 0 = U k) := Lib.hid rfl
      have hPe := Lib.hid hU
      have hq0 := Lib.hid p0
      have hq1 := Lib.hid p1
      have hq4 := Lib.hid p4
      have r4 : wr.cell? ⟨b2, o2 + k, none⟩ = some (.int .i64 s) := by rw [← hq4.out]; exact hB0.out.cell (p := ⟨b2, o2 + k, none⟩) (show b2 < w.heap.size by omega)
      clear hU p0 p1 p2 p3 p4
      generalize hPU : putUse (U k) s nd = P at *
      clear hPU
      have hw1 : IntKind.i64.wrap ((s : Int) + (t : Int)) = (s : Int) + (t : Int) := IntWalk.i64_in _ (by omega)
      have hO' := Lib.hid (show wr.ownsRow w.heap.size 2 1 (.slice (some ⟨g, 0, none⟩) E E) E ((P 0).map (Value.int .i64)) by rw [hP0.out]; exact hO.out)
      clear hO
      go_wp2_with fail
      clear r4
      go_loopw [7] (fun tv wr => ∃ d : Nat, d ≤ t ∧ tv = .int .i64 ((s : Int) + (d : Int)) ∧ Hid (wr.ownsRow w.heap.size 2 1 (.slice (some ⟨g, 0, none⟩) E E) E ((P d).map (Value.int .i64))) ∧ Hid (Below w.heap.size w wr)) (fun tv _ => s + t - (intOf tv).toNat)
      case atStart => exact ⟨0, Nat.zero_le _, by simp, hO', hB0⟩
      case round =>
        clear hO' hB0
        obtain ⟨d, hd, rfl, hO, hB2⟩ := hrel
        have r0 : wr.cell? ⟨b, o + k * 4, none⟩ = some (.int .i64 t) := by rw [← hq0.out]; exact hB2.out.cell (p := ⟨b, o + k * 4, none⟩) (show b < w.heap.size by omega)
        have r4 : wr.cell? ⟨b2, o2 + k, none⟩ = some (.int .i64 s) := by rw [← hq4.out]; exact hB2.out.cell (p := ⟨b2, o2 + k, none⟩) (show b2 < w.heap.size by omega)
        by_cases hlt2 : d < t
        · have hlt3 : (s : Int) + (d : Int) < (s : Int) + (t : Int) := by omega
          go_wp2_with fail
          go_quiet (fail)
          have hO2 := ownsRow_drewN hO.out nq
          have hB3 := Lst.Below.drewN hB2.out nq
          clear r0 r4 hO hB2
          generalize World.drewN _ nq = w5 at *
          have r1 : w5.cell? ⟨b, o + k * 4 + 1, none⟩ = some (.int .i64 nd) := by rw [← hq1.out]; exact hB3.cell (p := ⟨b, o + k * 4 + 1, none⟩) (show b < w.heap.size by omega)
          have hsm := hPs.out d hd (s + d)
          have hst2 := Lib.hid (hPt.out d)
          have hd0 : w5.cell? ⟨g, s + d, none⟩ = some (.int .i64 ((P d).getD (s + d) 0)) := row_at hO2 (by rw [hPl.out]; omega)
          have hf0 : w5.frozen? ⟨g, s + d, none⟩ = false := hO2.frozenAt (s + d)
          generalize (P d).getD (s + d) 0 = uv at *
          have hw3 : IntKind.i64.wrap nd = nd := IntWalk.i64_in _ (by omega)
          have hw4 : IntKind.i64.wrap (uv + nd) = uv + nd := IntWalk.i64_in _ (by omega)
          have hw5 : IntKind.i64.wrap ((s : Int) + (d : Int) + 1) = (s : Int) + (d : Int) + 1 := IntWalk.i64_in _ (by omega)
          have hj0 : 0 ≤ (s : Int) + (d : Int) := by omega
          have hj1 : ((s : Int) + (d : Int)).toNat = s + d := by omega
          have hj2 : (s : Int) + (d : Int) < (E : Int) := by omega
          go_wp2_with fail
          go_still_tail 11, (by kernel_rfl)
          change wpList _ _ _ _ _ w5.drew
          have hO3 := show w5.drew.ownsRow _ _ _ _ _ _ from hO2.drew
          have hB4 := hB3.drew
          have hd2 : w5.drew.cell? ⟨g, s + d, none⟩ = some (.int .i64 uv) := hd0
          have hf2 : w5.drew.frozen? ⟨g, s + d, none⟩ = false := hf0
          clear hO2 hB3 r1 hd0 hf0
          generalize w5.drew = w6 at *
          have hst' := row_put hO3 (s + d) (uv + nd)
          rw [← hst2.out] at hst'
          have hO4 := Lib.hid hst'.1
          have hB5 := Lib.hid (hB4.setCell (p := ⟨g, s + d, none⟩) hgw.out (.int .i64 (uv + nd)))
          clear hst' hO3 hB4
          go_wp2_with fail
          go_roundw
          case rel => exact ⟨d + 1, by omega, by go_num, hO4, hB5⟩
          case measure => simp [intOf]; omega
        · obtain rfl : t = d := by omega
          go_wp2_with fail
          go_quiet (fail)
          have hO2 := Lib.hid (ownsRow_drewN hO.out nq)
          have hB3 := Lib.hid (Lst.Below.drewN hB2.out nq)
          rw [← hPe.out] at hO2
          clear r0 r4 hO hB2
          generalize World.drewN _ nq = w5 at *
          go_wp2_with fail
          go_roundw
          case rel => exact ⟨k + 1, by omega, by go_num, hO2, hB3⟩
          case measure => simp [intOf]; omega
    · obtain rfl : n = k := by omega
      go_wp2_with fail
      go_ret
      exact ⟨_, rfl, Own.new hO.out (by unfold maxLen; omega), hB0.out⟩
set_option maxHeartbeats 4000000 in
theorem useOf_any (B : Nat) (v1 v2 : Value) (xs : List TaskD) (st : List Int) (w : World) (h1 : LstTask B w v1 xs) (h2 : LstI B w v2 st) (hB : B ≤ w.heap.size) (h : useOk xs st = true) :
    Calls Try.prog 43 #[v1, v2, .int .i64 (endOf xs st)] w fun e w' => ∃ v', e = .returned v' ∧ Own w.heap.size w'.heap.size w' v' 2 1 (useRes xs st).length ((useRes xs st).map (Value.int .i64)) ∧ Below w.heap.size w w' := by
  obtain ⟨hT, hl, hs, hso, e0, e1⟩ := useOk_of h
  obtain ⟨E, hE⟩ := Int.eq_ofNat_of_zero_le e0
  have hEt : (endOf xs st).toNat = E := by omega
  obtain ⟨a, a2, c1, c2, rfl, rfl, hml, hcells⟩ := use_cells h1 h2 h hEt
  obtain ⟨i0, hi, hz0, hz1, hz2⟩ := info_parts infoI
  have hC := Lib.hid hcells
  have hLn : Hid (∀ k, (useTo xs st E k).length = E) := Lib.hid (useTo_length xs st E)
  have hSm : Hid (∀ k, k ≤ xs.length → ∀ i, 0 ≤ (useTo xs st E k).getD i 0 ∧ (useTo xs st E k).getD i 0 ≤ 20 * (k : Int)) := Lib.hid (by rw [← hEt]; exact use_small h)
  have h0 : Hid (useTo xs st E 0 = List.replicate E 0) := Lib.hid rfl
  rw [useRes_yes h, hEt, useTo_length]
  rw [hE] at e1
  rw [hE]
  have hm : xs.length ≤ 16 := hT.most
  unfold maxLen at hml
  clear h1 h2 h hT hl hs hso e0 hEt hcells hE
  generalize useTo xs st E = U at *
  generalize xs.length = n at *
  go_enter Try.func43, Try.ntmps43
  go_wp2_with (at_make; refine wpList_make_full _ rfl _ _ _ rfl w.heap.size _ i0 (.int .i64 0) 1 Try.underlying28 hi hz0 hz1 _ _ _ _ E rfl rfl rfl rfl ?c1 ?c2 ?c3 ?_)
  case c1 => first | (rw [hz2]; omega) | omega
  case c2 => unfold maxLen; omega
  try case c3 => exact Nat.le_refl _
  intro w0 hown0 hg0
  have hB0 := Lib.hid (show Below w.heap.size w w0 from (Below.refl _ _).grown hg0 (Nat.le_refl _) (fun k hk => by cases hk))
  have hs0 : w.heap.size < w0.heap.size := (hown0.lt _ rfl).2
  have hO := Lib.hid (zeros_own' hown0)
  rw [← h0.out] at hO
  clear hown0 hg0 hz0 hz1 hz2 hi
  go_wp2
  go_loopw [7, 14] (fun sv i wr => ∃ k : Nat, k ≤ n ∧ i = .int .i64 k ∧ sv = .slice (some ⟨w.heap.size, 0, none⟩) E E ∧ Hid (wr.ownsRow w.heap.size 2 1 (.slice (some ⟨w.heap.size, 0, none⟩) E E) E ((U k).map (Value.int .i64))) ∧ Hid (Below w.heap.size w wr) ∧ w.heap.size < wr.heap.size) (fun _ i _ => n - (intOf i).toNat)
  case atStart => exact ⟨0, Nat.zero_le _, rfl, rfl, hO, hB0, hs0⟩
  case round =>
    clear hO hB0 hs0
    obtain ⟨k, hk, rfl, rfl, hO, hB0, hs0⟩ := hrel
    by_cases hlt : k < n
    · obtain ⟨b, o, b2, o2, s, t, nd, ab, al, nb, cb, nl, cl, rfl, rfl, bb, bb2, p0, p1, p2, p3, p4, hst, ht, n0, n1, hU⟩ := hC.out k hlt
      have hi1 : (k : Int) < n := by omega
      have hPe := Lib.hid hU
      have hus := Lib.hid (hSm.out k hk)
      have hul := Lib.hid (hLn.out k)
      clear hU
      rw [← hB0.out.cell (p := ⟨b, o + k * 4, none⟩) (show b < w.heap.size by omega)] at p0
      rw [← hB0.out.cell (p := ⟨b, o + k * 4 + 1, none⟩) (show b < w.heap.size by omega)] at p1
      rw [← hB0.out.cell (p := ⟨b, o + k * 4 + 2, none⟩) (show b < w.heap.size by omega)] at p2
      rw [← hB0.out.cell (p := ⟨b, o + k * 4 + 3, none⟩) (show b < w.heap.size by omega)] at p3
      rw [← hB0.out.cell (p := ⟨b2, o2 + k, none⟩) (show b2 < w.heap.size by omega)] at p4
      have hsz : b2 < wr.heap.size := by omega
      go_wp2_with fail
      generalize hwp : World.alloc wr _ = wp
      have hB4 := Lib.hid (show Below w.heap.size w wp by rw [← hwp]; exact below_alloc hB0.out _)
      have hB5 := Lib.hid (show Below wr.heap.size wr wp by rw [← hwp]; exact below_alloc (Below.refl _ _) _)
      have hs5 : w.heap.size < wp.heap.size := Nat.lt_of_lt_of_le hs0 hB5.out.size
      have hO4 := Lib.hid (ownsRow_kept hO.out hB5.out)
      have f0 : wp.cell? ⟨wr.heap.size, 0, none⟩ = some (.int .i64 t) := by rw [← hwp]; exact (Whole.made wr _ _ rfl).at_ rfl
      have f1 : wp.cell? ⟨wr.heap.size, 1, none⟩ = some (.int .i64 nd) := by rw [← hwp]; exact (Whole.made wr _ _ rfl).at_ rfl
      have f2 : wp.cell? ⟨wr.heap.size, 2, none⟩ = some (.slice ab nb cb) := by rw [← hwp]; exact (Whole.made wr _ _ rfl).at_ rfl
      have f3 : wp.cell? ⟨wr.heap.size, 3, none⟩ = some (.slice al nl cl) := by rw [← hwp]; exact (Whole.made wr _ _ rfl).at_ rfl
      have f4 : wp.cell? ⟨b2, o2 + k, none⟩ = some (.int .i64 s) := by rw [← hwp, (below_alloc (Below.refl _ _) _ : Below wr.heap.size wr _).cell (p := ⟨b2, o2 + k, none⟩) hsz]; exact p4
      clear hwp p0 p1 p2 p3 p4 hO hB0 hB5
      go_still_tail 6, (by kernel_rfl)
      change wpList _ _ _ _ _ wp.drew
      have hB6 := Lib.hid (show Below w.heap.size w wp.drew from hB4.out.drew)
      have hO6 := Lib.hid (show wp.drew.ownsRow w.heap.size 2 1 (.slice (some ⟨w.heap.size, 0, none⟩) E E) E ((U k).map (Value.int .i64)) from hO4.out.drew)
      have hs6 : w.heap.size < wp.drew.heap.size := hs5
      clear f0 f1 f2 f3 f4 hB4 hO4 hs5
      generalize wp.drew = w6 at *
      go_wp2_with fail
      refine (addUse_any w.heap.size w.heap.size E s t nb nl cb cl ab al nd (20 * (k : Int)) (U k) w6 hO6.out (Nat.le_refl _) hs6 hul.out (by omega) hst n0 n1 hus.out (by omega)).mono ?_
      rintro e w7 ⟨rfl, hO7, hB7⟩
      have hs7 : w.heap.size < w7.heap.size := Nat.lt_of_lt_of_le hs6 hB7.size
      have hB8 := Lib.hid (hB6.out.trans hB7)
      have hO8 := Lib.hid hO7
      rw [← hPe.out] at hO8
      clear hO7 hB7 hB6 hO6
      go_wp2_with fail
      go_roundw
      case rel => exact ⟨k + 1, by omega, by go_num, rfl, hO8, hB8, hs7⟩
      case measure => simp [intOf]; omega
    · obtain rfl : n = k := by omega
      go_wp2_with fail
      go_ret
      exact ⟨_, rfl, Own.new hO.out (by unfold maxLen; omega), hB0.out⟩
end Go.Proofs.Ytbjbllkolekmpaa
