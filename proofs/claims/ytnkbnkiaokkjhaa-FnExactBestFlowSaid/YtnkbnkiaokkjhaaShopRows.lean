/- Contracts: a list in rows; the shop of times. -/
import Derived.Test.YtnkbnkiaokkjhaaShopOf
import Derived.Test.YtnkbnkiaokkjhaaInRows
namespace Go.Proofs.Ytnkbnkiaokkjhaa
open Go.RowKit Go.Lst

/-- The machines of steps where all go the same way. -/
def sameWay (m : Nat) (k : Nat) : List Int := (List.range k).map fun i => ((i % m : Nat) : Int)
theorem sameWay_length (m k : Nat) : (sameWay m k).length = k := by simp [sameWay]
/-- The value s is a shop of the times ts and the routes rt, of n jobs and m machines. -/
def Shop (B : Nat) (w : World) (s : Value) (ts rt : List Int) (m n : Nat) : Prop :=
  ∃ (b o cap : Nat) (vr vt : Value) , s = .agg #[.int .i64 m, .slice (some ⟨b, o, none⟩) (n * m) cap, vr, vt] ∧ LstI B w (.slice (some ⟨b, o, none⟩) (n * m) cap) ts ∧ LstK 1 B w vr n (rowsL b o m n) ∧ LstI B w vt rt
theorem Shop.below {B B' m n : Nat} {w w' : World} {s : Value} {ts rt : List Int} (h : Shop B w s ts rt m n) (hb : Below B' w w') (hB : B ≤ B') : Shop B w' s ts rt m n := by
  obtain ⟨b, o, cap, vr, vt, h1, h2, h3, h4⟩ := h
  exact ⟨b, o, cap, vr, vt, h1, h2.below hb hB, h3.below hb hB, h4.below hb hB⟩
theorem Shop.mono {B B' m n : Nat} {w : World} {s : Value} {ts rt : List Int} (h : Shop B w s ts rt m n) (hB : B ≤ B') : Shop B' w s ts rt m n := by
  obtain ⟨b, o, cap, vr, vt, h1, h2, h3, h4⟩ := h
  exact ⟨b, o, cap, vr, vt, h1, h2.mono hB, h3.mono hB, h4.mono hB⟩
theorem sameWay_step (m n k : Nat) (h : k < n) : ((sameWay m k).map (Value.int .i64) ++ List.replicate (n - k) (Value.int .i64 0)).set k (.int .i64 ((k % m : Nat) : Int)) = (sameWay m (k + 1)).map (Value.int .i64) ++ List.replicate (n - (k + 1)) (Value.int .i64 0) := by
  obtain ⟨q, hq⟩ : ∃ q, n - k = q + 1 := ⟨n - k - 1, by omega⟩
  rw [hq, show n - (k + 1) = q by omega, List.replicate_succ, List.set_append_right _ _ (by simp [sameWay]), List.length_map, sameWay_length, Nat.sub_self, List.set_cons_zero]
  unfold sameWay
  rw [List.range_succ]
  simp
theorem imod (k m : Nat) : (k : Int) % (m : Int) = ((k % m : Nat) : Int) := by omega
theorem shop_below {B : Nat} {w w1 : World} (h : Below B w w1) (a b c d : Value) : Below B w ((((w1.setCell ⟨B, 0, none⟩ a).setCell ⟨B, 1, none⟩ b).setCell ⟨B, 2, none⟩ c).setCell ⟨B, 3, none⟩ d) :=
  (((h.setCell (p := ⟨B, 0, none⟩) (Nat.le_refl _) a).setCell (p := ⟨B, 1, none⟩) (Nat.le_refl _) b).setCell (p := ⟨B, 2, none⟩) (Nat.le_refl _) c).setCell (p := ⟨B, 3, none⟩) (Nat.le_refl _) d
theorem shop_cells {g t : Nat} {w1 : World} {x0 x1 x2 x3 : Value} {cs : Array Value} (h : Whole w1 g t cs) (hc : cs = #[x0, x1, x2, x3]) (a b c d : Value) :
    let w2 := (((w1.setCell ⟨g, 0, none⟩ a).setCell ⟨g, 1, none⟩ b).setCell ⟨g, 2, none⟩ c).setCell ⟨g, 3, none⟩ d
    w2.cell? ⟨g, 0, none⟩ = some a ∧ w2.cell? ⟨g, 1, none⟩ = some b ∧ w2.cell? ⟨g, 2, none⟩ = some c ∧ w2.cell? ⟨g, 3, none⟩ = some d := by
  subst hc
  have h2 := (((h.put 0 a).put 1 b).put 2 c).put 3 d
  exact ⟨h2.at_ rfl, h2.at_ rfl, h2.at_ rfl, h2.at_ rfl⟩
theorem shop_apart {g q : Nat} (w : World) (hq : q ≠ g) (a b c d : Value) : ((((w.setCell ⟨g, 0, none⟩ a).setCell ⟨g, 1, none⟩ b).setCell ⟨g, 2, none⟩ c).setCell ⟨g, 3, none⟩ d).heap[q]? = w.heap[q]? := by
  rw [Below.heap_setCell _ _ _ _ hq, Below.heap_setCell _ _ _ _ hq, Below.heap_setCell _ _ _ _ hq, Below.heap_setCell _ _ _ _ hq]
set_option maxHeartbeats 2000000 in
theorem shopOf_no (B : Nat) (v : Value) (ts : List Int) (M : Int) (w : World) (h : LstI B w v ts) (hB : B ≤ w.heap.size) (hq : canShop ts M = false) :
    Calls Try.prog 32 #[v, .int .i64 M] w fun e w' => e = .returned (.tuple #[.agg #[.int .i64 0, .slice none 0 0, .slice none 0 0, .slice none 0 0], .bool false]) ∧ Below w.heap.size w w' := by
  have hU := Lib.hid (fun w' hb => areUnlike_any B v ts M w' (h.below (B' := B) hb (Nat.le_refl _)))
  rw [hq] at hU
  clear h hq
  go_enter Try.func32, Try.ntmps32
  go_wp2_with fail
  have hb1 := Lib.hid (below_alloc (Below.refl w.heap.size w) (.cells #[.int .i64 0, .slice none 0 0, .slice none 0 0, .slice none 0 0] 62))
  have hw1 := Lib.hid (Whole.made w 62 #[.int .i64 0, .slice none 0 0, .slice none 0 0, .slice none 0 0] rfl)
  generalize w.alloc _ = w1 at *
  with_reducible refine (hU.out w1 (hb1.out.mono hB)).mono ?_
  rintro e w' ⟨rfl, rfl⟩
  have c0 := hw1.out.at_ (i := 0) rfl
  have c1 := hw1.out.at_ (i := 1) rfl
  have c2 := hw1.out.at_ (i := 2) rfl
  have c3 := hw1.out.at_ (i := 3) rfl
  have f0 := hw1.out.free 0
  have f1 := hw1.out.free 1
  have f2 := hw1.out.free 2
  have f3 := hw1.out.free 3
  generalize hg : w.heap.size = g at *
  have hG := Lib.hid hg
  clear hg
  go_wp2_with fail
  have hb2 := Lib.hid (shop_below hb1.out (.int .i64 0) (.slice none 0 0) (.slice none 0 0) (.slice none 0 0))
  obtain ⟨d0, d1, d2, d3⟩ := shop_cells hw1.out rfl (.int .i64 0) (.slice none 0 0) (.slice none 0 0) (.slice none 0 0)
  clear c0 c1 c2 c3 f0 f1 f2 f3
  generalize World.setCell _ _ _ = w2 at *
  exact bodyPost_ret (v := .tuple #[.agg #[.int .i64 0, .slice none 0 0, .slice none 0 0, .slice none 0 0], .bool false]) (by simp [results, Try.results32, go_sem, d0, d1, d2, d3]) rfl ⟨rfl, by rw [hG.out]; exact hb2.out⟩
set_option maxHeartbeats 4000000 in
set_option maxRecDepth 100000 in
theorem shopOf_yes (B b o cap m n : Nat) (ts : List Int) (w : World) (h : LstI B w (.slice (some ⟨b, o, none⟩) (n * m) cap) ts) (hB : B ≤ w.heap.size) (hm : 1 ≤ m) (hm8 : m ≤ 8) (hn1 : 1 ≤ n) (hn : n ≤ 24) (hq : canShop ts m = true) :
    Calls Try.prog 32 #[.slice (some ⟨b, o, none⟩) (n * m) cap, .int .i64 m] w fun e w' => ∃ s, e = .returned (.tuple #[s, .bool true]) ∧ Shop w'.heap.size w' s ts (sameWay m ts.length) m n ∧ Below w.heap.size w w' := by
  have hU := Lib.hid (fun w' hb => areUnlike_any B _ ts m w' (h.below (B' := B) hb (Nat.le_refl _)))
  rw [hq] at hU
  have hln := lstI_at h
  have hcap : n * m ≤ cap ∧ cap ≤ maxLen := by
    obtain ⟨a', c', hv, _, e1, e2, _⟩ := h
    injection hv with q1 q2 q3
    subst q3
    rw [hln] at e1
    exact ⟨e1, e2⟩
  have hR := Lib.hid (fun w' => rowsOf_any b o m n cap w' hm (by omega) (by omega) hcap.1 hcap.2)
  have hP : Hid (∀ (w' : World) (vr vt : Value), w.heap.size ≤ w'.heap.size → Below w.heap.size w w' → LstK 1 w'.heap.size w' vr n (rowsL b o m n) → LstI w'.heap.size w' vt (sameWay m ts.length) → Shop w'.heap.size w' (.agg #[.int .i64 m, .slice (some ⟨b, o, none⟩) (n * m) cap, vr, vt]) ts (sameWay m ts.length) m n) := Lib.hid fun w' vr vt hs hb h1 h2 =>
    ⟨b, o, cap, vr, vt, rfl, (h.below hb hB).mono (Nat.le_trans hB hs), h1, h2⟩
  rw [hln] at hP ⊢
  have hS := Lib.hid (fun k hk => sameWay_step m (n * m) k hk)
  have hWL := Lib.hid (sameWay_length m (n * m))
  have hL := mul_le24 hn hm8
  obtain ⟨i0, hi, hz0, hz1, hz2⟩ := info_parts infoI
  have hm0 : ((m : Int) == 0) = false := by rw [beq_eq_false_iff_ne]; omega
  have hSh : Hid (∀ w' s, Shop w'.heap.size w' s ts (sameWay m (n * m)) m n → Shop w'.heap.size w' s ts (sameWay m (n * m)) m n) := Lib.hid fun _ _ h => h
  generalize hQ : (fun (w' : World) (s : Value) => Shop w'.heap.size w' s ts (sameWay m (n * m)) m n) = Q at *
  have hQ2 := Lib.hid (fun w' s => congrFun (congrFun hQ w') s)
  clear h hq hln hcap hQ hSh
  generalize n * m = L at *
  go_enter Try.func32, Try.ntmps32
  go_wp2_with fail
  have hb1 := Lib.hid (below_alloc (Below.refl w.heap.size w) (.cells #[.int .i64 0, .slice none 0 0, .slice none 0 0, .slice none 0 0] 62))
  have hw1 := Lib.hid (Whole.made w 62 #[.int .i64 0, .slice none 0 0, .slice none 0 0, .slice none 0 0] rfl)
  generalize w.alloc _ = w1 at *
  with_reducible refine (hU.out w1 (hb1.out.mono hB)).mono ?_
  rintro e w' ⟨rfl, rfl⟩
  go_wp2_with (at_make; refine wpList_make_full _ rfl _ _ _ rfl w1.heap.size _ i0 (.int .i64 0) 1 Try.underlying24 hi hz0 hz1 _ _ _ _ L rfl rfl rfl rfl ?c1 ?c2 ?c3 ?_)
  case c1 => rw [hz2]; omega
  case c2 => unfold maxLen; omega
  case c3 => exact Nat.le_refl _
  intro w2 hown2 hg2
  have hB2 := Lib.hid ((Below.refl w1.heap.size w1).grown hg2 (Nat.le_refl _) (fun k hk => by cases hk))
  have hO2 := Lib.hid (show w2.ownsRow w1.heap.size 2 1 (.slice (some ⟨w1.heap.size, 0, none⟩) L L) L ((sameWay m 0).map (Value.int .i64) ++ List.replicate (L - 0) (.int .i64 0)) by
    rw [toList_madeCells_one] at hown2
    simpa [sameWay] using hown2)
  clear hown2 hg2
  go_wp2_with fail
  go_loopw [18] (fun i wr => ∃ k : Nat, k ≤ L ∧ i = .int .i64 k ∧ Hid (wr.ownsRow w1.heap.size 2 1 (.slice (some ⟨w1.heap.size, 0, none⟩) L L) L ((sameWay m k).map (Value.int .i64) ++ List.replicate (L - k) (.int .i64 0))) ∧ Hid (Below w1.heap.size w1 wr)) (fun i _ => L - (intOf i).toNat)
  case atStart => exact ⟨0, Nat.zero_le _, rfl, hO2, hB2⟩
  case round =>
    clear hO2 hB2
    obtain ⟨k, hk, rfl, hO3, hB3⟩ := hrel
    by_cases hlt : k < L
    · obtain ⟨u0, hdst⟩ : ∃ u, wr.cell? ⟨w1.heap.size, k, none⟩ = some u := by
        have h1 := hO3.out.cellAt k (by omega)
        have h2 := hO3.out.1
        rw [Nat.mul_one] at h2
        rw [h1]
        exact ⟨_, List.getElem?_eq_getElem (by omega)⟩
      have hfr : wr.frozen? ⟨w1.heap.size, k, none⟩ = false := hO3.out.frozenAt k
      have hst := hO3.out.stored k (.int .i64 ((k : Int) % (m : Int)))
      have hO4 := Lib.hid (show (wr.setCell ⟨w1.heap.size, k, none⟩ (.int .i64 ((k : Int) % (m : Int)))).ownsRow w1.heap.size 2 1 (.slice (some ⟨w1.heap.size, 0, none⟩) L L) L ((sameWay m (k + 1)).map (Value.int .i64) ++ List.replicate (L - (k + 1)) (.int .i64 0)) by
        rw [← hS.out k hlt, ← imod]; exact hst.1)
      have hB4 := Lib.hid (hB3.out.setCell (p := ⟨w1.heap.size, k, none⟩) (Nat.le_refl _) (.int .i64 ((k : Int) % (m : Int))))
      clear hst hO3 hB3
      go_wp2_with fail
      go_roundw
      case rel => exact ⟨k + 1, by omega, by go_num, hO4, hB4⟩
      case measure => simp [intOf]; omega
    · have hO4 := Lib.hid (show wr.ownsRow w1.heap.size 2 1 (.slice (some ⟨w1.heap.size, 0, none⟩) L L) L ((sameWay m L).map (Value.int .i64)) by
        have h1 := hO3.out
        rw [show k = L by omega, Nat.sub_self, List.replicate_zero, List.append_nil] at h1
        exact h1)
      clear hO3
      go_wp2_with fail
      with_reducible refine (hR.out wr).mono ?_
      rintro e w5 ⟨vr, rfl, ho5, hb5⟩
      have hB5 := Lib.hid (below_on hB3.out (Nat.le_refl _) hb5)
      have hw5 := hw1.out.kept hB5.out
      have hr5 := Lib.hid ho5
      have hsz := hw1.out.size
      have hsz2 := hB3.out.size
      have ht5 := Lib.hid (show Own w1.heap.size w5.heap.size w5 (.slice (some ⟨w1.heap.size, 0, none⟩) L L) 2 1 (sameWay m L).length ((sameWay m L).map (Value.int .i64)) from by
        rw [hWL.out]; exact Own.new (ownsRow_kept hO4.out hb5) (by unfold maxLen; omega))
      obtain ⟨ar, cr, rfl⟩ : ∃ a c, vr = .slice a n c := by obtain ⟨a, c, h, _⟩ := hr5.out.lstK (Nat.le_refl _); exact ⟨a, c, h⟩
      have c0 := hw5.at_ (i := 0) rfl
      have c1 := hw5.at_ (i := 1) rfl
      have c2 := hw5.at_ (i := 2) rfl
      have c3 := hw5.at_ (i := 3) rfl
      have f0 := hw5.free 0
      have f1 := hw5.free 1
      have f2 := hw5.free 2
      have f3 := hw5.free 3
      have hW5 := Lib.hid hw5
      clear ho5 hb5 hO4 hB3 hw5
      go_wp2_with fail
      have hb6 := Lib.hid (shop_below (below_on hb1.out (Nat.le_refl _) hB5.out) (.int .i64 m) (.slice (some ⟨b, o, none⟩) L cap) (.slice ar n cr) (.slice (some ⟨w1.heap.size, 0, none⟩) L L))
      have hb7 := Lib.hid (shop_below (Below.refl w.heap.size w5) (.int .i64 m) (.slice (some ⟨b, o, none⟩) L cap) (.slice ar n cr) (.slice (some ⟨w1.heap.size, 0, none⟩) L L))
      obtain ⟨d0, d1, d2, d3⟩ := shop_cells hW5.out rfl (.int .i64 m) (.slice (some ⟨b, o, none⟩) L cap) (.slice ar n cr) (.slice (some ⟨w1.heap.size, 0, none⟩) L L)
      have hs6 := Lib.hid (fun q (hq : q ≠ w.heap.size) => shop_apart w5 hq (.int .i64 m) (.slice (some ⟨b, o, none⟩) L cap) (.slice ar n cr) (.slice (some ⟨w1.heap.size, 0, none⟩) L L))
      clear c0 c1 c2 c3 f0 f1 f2 f3
      generalize World.setCell _ _ _ = w6 at *
      have hr6 := (hr5.out.same (w' := w6) (fun q h1 h2 => hs6.out q (by omega))).lstK hb7.out.size
      have ht6 := (ht5.out.same (w' := w6) (fun q h1 h2 => hs6.out q (by omega))).lstI hb7.out.size
      have hF := Lib.hid (hP.out w6 _ _ hb6.out.size hb6.out hr6 ht6)
      exact bodyPost_ret (v := .tuple #[.agg #[.int .i64 m, .slice (some ⟨b, o, none⟩) L cap, .slice ar n cr, .slice (some ⟨w1.heap.size, 0, none⟩) L L], .bool true]) (by simp [results, Try.results32, go_sem, d0, d1, d2, d3]) rfl ⟨_, rfl, hF.out, hb6.out⟩
end Go.Proofs.Ytnkbnkiaokkjhaa
