/- Contracts: how much later tasks can start, in the model and in the program. -/
import Derived.Test.YtlgojbbhjhifhaaLate2
import Derived.Laws.AppendOwn
import Derived.Deep.AppendLies
import Derived.Deep.RegionHeld3
namespace Go.Proofs.Ytlgojbbhjhifhaa
open Go.RowKit Go.Lst

/-- The first k numbers of a list are written. -/
def fillTo (base : List Int) (f : Nat → Int) : Nat → List Int
  | 0 => base
  | k + 1 => (fillTo base f k).set k (f k)
def fill (f : Nat → Int) (n : Nat) : List Int := (List.range n).map f
theorem fillTo_length (base : List Int) (f : Nat → Int) : ∀ k, (fillTo base f k).length = base.length
  | 0 => rfl
  | k + 1 => by simp [fillTo, fillTo_length base f k]
theorem fillTo_get (base : List Int) (f : Nat → Int) (i : Nat) : ∀ k, (fillTo base f k).getD i 0 = if i < k ∧ i < base.length then f i else base.getD i 0
  | 0 => by simp [fillTo]
  | k + 1 => by
    simp only [fillTo]
    rw [getD_set, fillTo_get base f i k, fillTo_length]
    by_cases h1 : k = i
    · subst h1
      by_cases h2 : k < base.length
      · simp [h2]
      · simp [h2]
    · by_cases h2 : i < k
      · rw [if_neg (by omega)]
        by_cases h3 : i < base.length
        · rw [if_pos ⟨h2, h3⟩, if_pos ⟨by omega, h3⟩]
        · rw [if_neg (by omega), if_neg (by omega)]
      · rw [if_neg (by omega), if_neg (by omega), if_neg (by omega)]
theorem fill_length (f : Nat → Int) (n : Nat) : (fill f n).length = n := by simp [fill]
theorem fill_get (f : Nat → Int) (n i : Nat) : (fill f n).getD i 0 = if i < n then f i else 0 := by
  rw [List.getD_eq_getElem?_getD]
  unfold fill
  rw [List.getElem?_map]
  by_cases h : i < n
  · rw [List.getElem?_range h, if_pos h]; rfl
  · rw [List.getElem?_eq_none (by simp; omega), if_neg h]; rfl
theorem ext_getD {a b : List Int} (hl : a.length = b.length) (h : ∀ i, i < a.length → a.getD i 0 = b.getD i 0) : a = b := by
  apply List.ext_getElem?
  intro i
  by_cases hi : i < a.length
  · rw [getD_get hi, getD_get (by omega), h i hi]
  · rw [List.getElem?_eq_none (by omega), List.getElem?_eq_none (by omega)]
theorem fillTo_all {base : List Int} {f : Nat → Int} {n : Nat} (hl : base.length = n) : fillTo base f n = fill f n :=
  ext_getD (by rw [fillTo_length, fill_length, hl]) fun i hi => by
    rw [fillTo_length] at hi
    rw [fillTo_get, fill_get, if_pos ⟨by omega, hi⟩, if_pos (by omega)]
theorem fill_succ (f : Nat → Int) (k : Nat) : fill f (k + 1) = fill f k ++ [f k] := by
  unfold fill
  rw [List.range_succ, List.map_append]
  rfl
theorem news_one (w : World) (t : TypeId) (u : Value) : ∀ (q : Unit) (j : Nat) (x : Value), [u][j]? = some x → (w.alloc (.cells #[u] t)).drew.cell? ((⟨w.heap.size, 0, none⟩ : Addr).add j) = some x := fun _ j x hj => by
  match j, hj with
  | 0, hj =>
    obtain rfl : u = x := by simpa using hj
    exact (Whole.made w t #[u] rfl).at_ rfl
  | j + 1, hj => simp at hj
theorem alloc_drew_eq (w : World) (o : Obj) : (w.alloc o).drew.heap.size = w.heap.size + 1 := by show (w.alloc o).heap.size = _; simp
theorem alloc_drew_le {B : Nat} {w : World} (h : B ≤ w.heap.size) (o : Obj) : B ≤ (w.alloc o).drew.heap.size := by rw [alloc_drew_eq]; omega
theorem one_cell (y : Int) : ∀ u ∈ [Value.int .i64 y], u.oneCell' = true := fun u hu => by
  obtain rfl : u = .int .i64 y := by simpa using hu
  rfl
theorem below_append {B n : Nat} {w wr w6 : World} {o : Obj} {v : Value} {cs : List Value} {e : TypeId} (hb : Below B w wr) (hO : wr.ownsRow B e 1 v n cs) (hg : (wr.alloc o).drew.grownBy w6 v.ownBlock) (hB : B ≤ wr.heap.size) : Below B w w6 :=
  ((hb.alloc hB o).drew).grown hg (by show B ≤ (wr.alloc o).heap.size; simp; omega) fun k hk => (hO.lt k hk).1
theorem own_slice_n {A B e k n : Nat} {w : World} {v : Value} {cs : List Value} (h : Own A B w v e k n cs) : ∃ a c, v = .slice a n c := by
  rcases h.1.2 with ⟨h1, h2⟩ | ⟨g, cap, cur, h1, _⟩
  · exact ⟨none, 0, by rw [h1, h2]⟩
  · exact ⟨_, _, h1⟩
/-- A list of the call's own reads, at each place. -/
theorem own_reads {A B B' n : Nat} {w w' : World} {a : Option Addr} {c : Nat} {st : List Int} (h : Own A B w (.slice a n c) 2 1 st.length (st.map (Value.int .i64))) (hb : Below B' w w') (hB : B ≤ B') :
    ∀ k, k < st.length → ∃ g o, a = some ⟨g, o, none⟩ ∧ g < B ∧ w'.cell? ⟨g, o + k, none⟩ = some (.int .i64 (st.getD k 0)) := fun k hk => by
  obtain ⟨a', cap', e1, _, _, _, hc⟩ := (h.lstI (Nat.le_refl B)).at_
  injection e1 with e1 _ _
  subst e1
  obtain ⟨g, o, y, e2, e3, e4, e5⟩ := hc k hk
  refine ⟨g, o, e2, e3, ?_⟩
  rw [hb.cell (p := ⟨g, o + k, none⟩) (show g < B' by omega), e5, getD_some e4]
/-- How much later each task can start. -/
def slackAt (xs : List TaskD) (i : Nat) : Int := (late xs (endOf xs (early xs))).getD i 0 - (early xs).getD i 0
def slackOf (xs : List TaskD) : List Int := fill (slackAt xs) xs.length
theorem endOf_bound {xs : List TaskD} (h : Fit xs) : 0 ≤ endOf xs (early xs) ∧ endOf xs (early xs) ≤ 18600 := by
  have := endTo_bound h (early_bound h) (by omega) xs.length
  unfold endOf
  omega

set_option maxHeartbeats 4000000 in
set_option maxRecDepth 100000 in
theorem l03Slack_any (B : Nat) (v : Value) (xs : List TaskD) (w : World) (h : LstTask B w v xs) (hB : B ≤ w.heap.size) (hf : Fit xs) :
    Calls Try.prog 64 #[v] w fun r w' => ∃ v', r = .returned v' ∧ Own w.heap.size w'.heap.size w' v' 2 1 xs.length ((slackOf xs).map (Value.int .i64)) ∧ Below w.heap.size w w' := by
  obtain ⟨a, cap, rfl, hl, _, _, _⟩ := h.at_
  obtain ⟨i0, hi, hz0, hz1, hz2⟩ := info_parts infoI
  have hLs := Lib.hid h
  have hFt := Lib.hid hf
  have hm : xs.length ≤ 16 := hf.most
  have hE := endOf_bound hf
  clear h hf
  unfold maxLen at hl
  go_enter Try.func64, Try.ntmps64
  go_wp2_with fail
  refine (l03Early_any B _ xs w hLs.out hB hFt.out).mono ?_
  rintro r w1 ⟨v1, rfl, ho1, hb1⟩
  have hB1 := Lib.hid hb1
  have hO1 := Lib.hid (early_own ho1 (early_length xs))
  obtain ⟨a1, c1, rfl⟩ := own_slice_n ho1
  clear ho1 hb1
  go_wp2_with fail
  refine (l03End_any w1.heap.size _ _ xs (early xs) w1 ((hLs.out.below hB1.out hB).mono (Nat.le_trans hB hB1.out.size)) (hO1.out.lstI (Nat.le_refl _)) hFt.out (by rw [early_length]; exact Nat.le_refl _) ((early_bound hFt.out).mono (by omega) (by omega))).mono ?_
  rintro r w2 ⟨m2, rfl, rfl⟩
  have hb2 := below_drawn w1 m2
  have hB2 := Lib.hid (Lst.Below.drewN hB1.out m2)
  have hO2 := Lib.hid (hO1.out.below hb2 (Nat.le_refl _))
  have hs2 := Lib.hid hb2.size
  generalize w1.drewN m2 = w2 at *
  clear hb2 hO1
  go_wp2_with fail
  refine (l03Late_any B _ xs _ w2 (hLs.out.below hB2.out hB) (Nat.le_trans hB hB2.out.size) hFt.out hE.1 (by omega)).mono ?_
  rintro r w3 ⟨v3, rfl, ho3, hb3⟩
  obtain ⟨a3, c3, rfl⟩ := own_slice_n ho3
  have hO3 := Lib.hid (early_own ho3 (late_length xs _))
  have hO4 := Lib.hid (hO2.out.below hb3 hs2.out)
  have hB3 := Lib.hid (below_on hB2.out (Nat.le_refl _) hb3)
  clear ho3 hO2
  have hR3 : Hid (∀ (wr : World), Below w3.heap.size w3 wr → ∀ k, k < xs.length → ∃ g o, a3 = some ⟨g, o, none⟩ ∧ g < w3.heap.size ∧ wr.cell? ⟨g, o + k, none⟩ = some (.int .i64 ((late xs (endOf xs (early xs))).getD k 0))) := Lib.hid fun wr hb k hk => own_reads hO3.out hb (Nat.le_refl _) k (by rw [late_length]; exact hk)
  have hR4 : Hid (∀ (wr : World), Below w3.heap.size w3 wr → ∀ k, k < xs.length → ∃ g o, a1 = some ⟨g, o, none⟩ ∧ g < w1.heap.size ∧ wr.cell? ⟨g, o + k, none⟩ = some (.int .i64 ((early xs).getD k 0))) := Lib.hid fun wr hb k hk => own_reads hO4.out hb (Nat.le_trans hs2.out hb3.size) k (by rw [early_length]; exact hk)
  have hBl := Lib.hid (late_bound hFt.out hE.1)
  have hBe := Lib.hid (early_bound hFt.out)
  have hsz : Hid (w.heap.size ≤ w3.heap.size) := Lib.hid hB3.out.size
  have hSl : Hid (∀ k, slackAt xs k = (late xs (endOf xs (early xs))).getD k 0 - (early xs).getD k 0) := Lib.hid fun _ => rfl
  have hEnd : Hid (slackOf xs = fill (slackAt xs) xs.length) := Lib.hid rfl
  have hs13 : w1.heap.size ≤ w3.heap.size := Nat.le_trans hs2.out hb3.size
  clear hO3 hO4 hb3 hB1 hB2 hs2
  generalize hnn : xs.length = n at *
  have hN := Lib.hid hnn
  clear hnn
  go_wp2_with fail
  have hO0 := Lib.hid (show (w3.alloc (Obj.cells #[] 2)).ownsRow w3.heap.size 2 1 (.slice (some ⟨w3.heap.size, 0, none⟩) 0 0) 0 ((fill (slackAt xs) 0).map (Value.int .i64)) from World.ownsRow_lit w3 #[] 0 (Nat.le_refl _) (Nat.zero_le _) rfl)
  have hB0 := Lib.hid (show Below w3.heap.size w3 (w3.alloc (Obj.cells #[] 2)) from below_alloc (Below.refl _ _) _)
  generalize w3.alloc (Obj.cells #[] 2) = w4 at *
  go_loopw [5, 17] (fun v i wr => ∃ k : Nat, k ≤ n ∧ i = .int .i64 k ∧ Hid (wr.ownsRow w3.heap.size 2 1 v k ((fill (slackAt xs) k).map (Value.int .i64))) ∧ Hid (Below w3.heap.size w3 wr)) (fun _ i _ => n - (intOf i).toNat)
  case atStart => exact ⟨0, Nat.zero_le _, rfl, hO0, hB0⟩
  case round =>
    obtain ⟨k, hk, rfl, hO5, hB5⟩ := hrel
    by_cases hlt : k < n
    · obtain ⟨g3, o3, rfl, g3lt, d3⟩ := hR3.out wr hB5.out k hlt
      obtain ⟨g1, o1, rfl, g1lt, d1⟩ := hR4.out wr hB5.out k hlt
      have hl1 := hBl.out k
      have he1 := hBe.out k
      have hS := Lib.hid (hSl.out k)
      generalize (late xs (endOf xs (early xs))).getD k 0 = y3 at *
      generalize (early xs).getD k 0 = y1 at *
      have hw1 : IntKind.i64.wrap (y3 - y1) = y3 - y1 := IntWalk.i64_in _ (by omega)
      have hkI : (k : Int) < n := by omega
      have hS0 : Hid (∀ w' : World, Below w3.heap.size w3 w' → (w'.cell? ⟨g3, o3 + k, none⟩ = some (.int .i64 y3) ∧ w'.cell? ⟨g1, o1 + k, none⟩ = some (.int .i64 y1)) ∧ Below w3.heap.size w3 w') := Lib.hid fun w' hb => by
        refine ⟨⟨?_, ?_⟩, hb⟩
        · rw [hb.cell (p := ⟨g3, o3 + k, none⟩) (by assumption), ← hB5.out.cell (p := ⟨g3, o3 + k, none⟩) (by assumption)]; exact d3
        · rw [hb.cell (p := ⟨g1, o1 + k, none⟩) (show g1 < _ by omega), ← hB5.out.cell (p := ⟨g1, o1 + k, none⟩) (show g1 < _ by omega)]; exact d1
      have hs5 := Lib.hid (show w3.heap.size ≤ wr.heap.size from hB5.out.size)
      go_wp2_with fail
      go_region_held3 (fun w' => (w'.cell? ⟨g3, o3 + k, none⟩ = some (.int .i64 y3) ∧ w'.cell? ⟨g1, o1 + k, none⟩ = some (.int .i64 y1)) ∧ Below w3.heap.size w3 w') ((first | exact h7.out | exact hS0.out _ hB5.out | exact hS0.out _ hB5.out.drew | exact hS0.out _ (hB5.out.alloc hB5.out.size _).drew)) ((refine step_append_lies _ (by rfl) _ _ _ (by rfl) w3.heap.size 2 i0 (.int .i64 0) 1 8 Try.underlying30 hi hz0 hz1 hz2 rfl (by decide) _ k _ (by rfl) (hO5.out.alloc _).drew ⟨wr.heap.size, 0, none⟩ 1 1 [.int .i64 (y3 - y1)] (by rfl) rfl (news_one wr _ _ ()) (one_cell _) (by omega) (by unfold maxLen; omega) (by omega) (alloc_drew_le hs5.out _) (wr.heap.size + 1) (alloc_drew_eq _ _) ?_; intro g cp w6 hown6 hgrow6 hat6 hlt6; have hB7 := Lib.hid (below_append hB5.out hO5.out hgrow6 hs5.out); have hO7 := Lib.hid hown6; have h7 := Lib.hid (hS0.out w6 hB7.out); clear hat6 hlt6 hown6 hgrow6))
      have hO8 := Lib.hid (show w6.ownsRow w3.heap.size 2 1 (.slice (some ⟨g, 0, none⟩) (k + 1) cp) (k + 1) ((fill (slackAt xs) (k + 1)).map (Value.int .i64)) by rw [fill_succ, List.map_append, hS.out]; exact hO7.out)
      clear hO7 h7 hO5 hB5 hS0 d1 d3
      go_wp2_with fail
      go_roundw
      case rel => first | exact ⟨k + 1, by omega, by go_num, hO8, hB7⟩ | exact ⟨k + 1, by omega, by go_num, Lib.hid hO8.out.drew, Lib.hid hB7.out.drew⟩
      case measure => simp [intOf]; omega
    · have hk2 : k = n := by omega
      subst hk2
      have hO6 := hO5.out
      rw [← hEnd.out] at hO6
      have hO7 := Lib.hid ((Own.new hO6 (by unfold maxLen; omega)).mono hsz.out (Nat.le_refl _))
      have hB6 := Lib.hid (below_on hB3.out (Nat.le_refl _) hB5.out)
      clear hO6 hO5 hB5
      go_wp2_with fail
      go_ret
      exact ⟨_, rfl, by first | exact hO7.out | (rw [hN.out]; exact hO7.out), hB6.out⟩
end Go.Proofs.Ytlgojbbhjhifhaa
