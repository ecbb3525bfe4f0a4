/- The colours that a rule of order tells: the program's and the model's, alike. -/
import Derived.Test.YtfidppepchobeaaColByPure
import Derived.Test.YtfidppepchobeaaClashSpec
import Derived.Test.YtfidppepchobeaaOrder
import Derived.Test.YtfidppepchobeaaRepeat
import Derived.Test.YtfidppepchobeaaStat
import Derived.Test.YtfidppepchobeaaFillI
namespace Go.Proofs.Ytfidppepchobeaa
open Go.RowKit Go.Lst Go.Plan Go

def colByOk (e : Int) (xs ord : List Int) : Bool := clashOk e xs && isOrd ord e
def colByR (e : Int) (xs ord : List Int) : List Int := if colByOk e xs ord then colTo (pairsL xs) e.toNat ord ord.length else []
theorem colByR_len (e : Int) (xs ord : List Int) : (colByR e xs ord).length ≤ 1048576 := by
  unfold colByR
  split
  · rename_i h
    unfold colByOk at h
    rw [Bool.and_eq_true] at h
    obtain ⟨r1, _⟩ := clashOk_in h.1
    obtain ⟨r2, r3, _⟩ := clashNo_in r1
    rw [colTo_length]; omega
  · simp
set_option maxHeartbeats 2000000 in
theorem isFree_any (e gs gc x c : Nat) (ps : List (Int × Int)) (out : List Int) (w : World) (he : e ≤ 12) (hx : x < e) (hp : PairsIn e ps)
    (hS : w.cell? ⟨gs, x, none⟩ = some (.int .i64 (adjN ps x : Int))) (cc : Nat) (hC : ∀ k, k < e → w.cell? ⟨gc, k, none⟩ = some (.int .i64 (out.getD k 0))) :
    Calls Try.prog 54 #[.slice (some ⟨gs, 0, none⟩) e e, .int .i64 (x : Int), .int .i64 (c : Int), .slice (some ⟨gc, 0, none⟩) e cc] w fun y w' => y = .returned (.bool (!takenTo ps (x : Int) (c : Int) out e)) ∧ w = w' := by
  have hlt := adjN_lt he ps hp x
  have hI : Hid (∀ k : Nat, k < 12 → Calls Try.prog 90 #[.int .i64 (adjN ps x : Int), .int .i64 (k : Int)] w fun e w' => e = .returned (.bool (clashB ps (x : Int) (k : Int))) ∧ w = w') := Lib.hid fun k hk => by
    have := isIn_any (adjN ps x) k hlt hk w
    rw [adj_bit hp] at this
    exact this
  have hX : Hid (∀ k, k < e → w.cell? ⟨gc, 0 + k, none⟩ = some (.int .i64 (out.getD k 0))) := Lib.hid fun k hk => by rw [Nat.zero_add]; exact hC k hk
  have hN : Hid (∀ k, takenTo ps (x : Int) (c : Int) out k = false → ((out.getD k 0 == (c : Int)) && clashB ps (x : Int) (k : Int)) = false → takenTo ps (x : Int) (c : Int) out (k + 1) = false) := Lib.hid fun k h1 h2 => by rw [takenTo_succ, h1, h2]; rfl
  have hY : Hid (∀ k, k < e → ((out.getD k 0 == (c : Int)) && clashB ps (x : Int) (k : Int)) = true → takenTo ps (x : Int) (c : Int) out e = true) := Lib.hid fun k hk h2 => takenTo_yes (k := k + 1) (by rw [takenTo_succ, h2]; simp) (by omega)
  have h0 : Hid (takenTo ps (x : Int) (c : Int) out 0 = false) := Lib.hid rfl
  generalize takenTo ps (x : Int) (c : Int) out = T at *
  clear hC hp hlt
  generalize adjN ps x = z at *
  have hxe : (x : Int) < e := by omega
  go_enter Try.func54, Try.ntmps54
  go_wp2_with fail
  go_loopw [13] (fun iv wr => ∃ k : Nat, k ≤ e ∧ iv = .int .i64 k ∧ Hid (T k = false) ∧ w = wr) (fun iv _ => e - (intOf iv).toNat)
  case atStart => exact ⟨0, Nat.zero_le _, rfl, h0, rfl⟩
  case round =>
    obtain ⟨k, hk, rfl, hT, rfl⟩ := hrel
    by_cases hlt : k < e
    · have p0 := hX.out k hlt
      rw [Nat.zero_add] at p0
      have hi := Lib.hid (hI.out k (by omega))
      cases h1 : (out.getD k 0 == (c : Int))
      · have hT2 := Lib.hid (hN.out k hT.out (by rw [h1]; rfl))
        generalize out.getD k 0 = y at *
        go_wp2_with fail
        go_roundw
        case rel => exact ⟨k + 1, by omega, by go_num, hT2, by trivial⟩
        case measure => simp [intOf]; omega
      · cases h2 : clashB ps (x : Int) (k : Int)
        · have hT2 := Lib.hid (hN.out k hT.out (by rw [h2, Bool.and_false]))
          rw [h2] at hi
          clear h2
          generalize out.getD k 0 = y at *
          go_wp2_with (go_at_call 90; (with_reducible refine hi.out.mono ?_); rintro e' w' ⟨rfl, rfl⟩)
          go_roundw
          case rel => exact ⟨k + 1, by omega, by go_num, hT2, by trivial⟩
          case measure => simp [intOf]; omega
        · have hT2 := Lib.hid (hY.out k hlt (by rw [h1, h2]; rfl))
          rw [h2] at hi
          clear h2
          generalize out.getD k 0 = y at *
          go_wp2_with (go_at_call 90; (with_reducible refine hi.out.mono ?_); rintro e' w' ⟨rfl, rfl⟩)
          go_ret
          exact ⟨ret_bool (by rw [hT2.out]; rfl), rfl⟩
    · obtain rfl : k = e := by omega
      go_wp2_with fail
      go_ret
      exact ⟨ret_bool (by rw [hT.out]; rfl), rfl⟩
theorem clashB_snoc (ps : List (Int × Int)) (p : Int × Int) (a b : Int) : clashB (ps ++ [p]) a b = (clashB ps a b || ((p.1 == a && p.2 == b) || (p.1 == b && p.2 == a))) := by
  unfold clashB; rw [List.any_append]; simp
theorem clashB_yes {ps qs : List (Int × Int)} {a b : Int} (h : ps <+: qs) (hn : clashB ps a b = true) : clashB qs a b = true := by
  obtain ⟨r, rfl⟩ := h
  unfold clashB at *
  rw [List.any_append, hn, Bool.true_or]
theorem pairsTo_pre (xs : List Int) {j k : Nat} (h : j ≤ k) : pairsTo xs j <+: pairsTo xs k := by
  induction k with
  | zero => rw [show j = 0 by omega]; exact List.prefix_rfl
  | succ k ih =>
    by_cases e : j = k + 1
    · rw [e]; exact List.prefix_rfl
    · rw [pairsTo_succ]
      exact (ih (by omega)).trans (List.prefix_append _ _)
set_option maxHeartbeats 4000000 in
theorem l07Clash_any (B : Nat) (v : Value) (xs : List Int) (a b : Int) (w : World) (h : LstI B w v xs) (hev : xs.length % 2 = 0) (hn : xs.length ≤ 64) :
    Calls Try.prog 50 #[v, .int .i64 a, .int .i64 b] w fun e w' => e = .returned (.bool (clashB (pairsL xs) a b)) ∧ w = w' := by
  obtain ⟨ad, cap, rfl, hl, _, _, hc⟩ := h.at_
  have hC : Hid (∀ k, k < xs.length → ∃ b o, ad = some ⟨b, o, none⟩ ∧ w.cell? ⟨b, o + k, none⟩ = some (.int .i64 (xs.getD k 0))) := Lib.hid fun k hk => by
    obtain ⟨b, o, x, h1, _, h3, h4⟩ := hc k hk
    exact ⟨b, o, h1, by rw [getD_of h3]; exact h4⟩
  have hN : Hid (∀ j, clashB (pairsTo xs j) a b = false → (((xs.getD (2 * j) 0 == a) && (xs.getD (2 * j + 1) 0 == b)) || ((xs.getD (2 * j) 0 == b) && (xs.getD (2 * j + 1) 0 == a))) = false → clashB (pairsTo xs (j + 1)) a b = false) := Lib.hid fun j h1 h2 => by
    rw [pairsTo_succ, clashB_snoc, h1]; exact h2
  have hY : Hid (∀ j, 2 * j < xs.length → (((xs.getD (2 * j) 0 == a) && (xs.getD (2 * j + 1) 0 == b)) || ((xs.getD (2 * j) 0 == b) && (xs.getD (2 * j + 1) 0 == a))) = true → clashB (pairsL xs) a b = true) := Lib.hid fun j hj h2 => by
    refine clashB_yes (ps := pairsTo xs (j + 1)) (pairsTo_pre xs (by omega)) ?_
    rw [pairsTo_succ, clashB_snoc]
    show (_ || ((xs.getD (2 * j) 0 == a && xs.getD (2 * j + 1) 0 == b) || (xs.getD (2 * j) 0 == b && xs.getD (2 * j + 1) 0 == a))) = true
    rw [h2, Bool.or_true]
  have hE : Hid (∀ j, 2 * j = xs.length → clashB (pairsTo xs j) a b = false → clashB (pairsL xs) a b = false) := Lib.hid fun j hj h2 => by
    unfold pairsL
    rw [← hj, show 2 * j / 2 = j by omega]; exact h2
  have h0 : Hid (clashB (pairsTo xs 0) a b = false) := Lib.hid rfl
  clear h hc
  generalize clashB (pairsL xs) a b = Q at *
  generalize (fun j => clashB (pairsTo xs j) a b) = T at *
  generalize xs.length = n at *
  unfold maxLen at hl
  go_enter Try.func50, Try.ntmps50
  go_wp2_with fail
  go_loopw [7] (fun iv wr => ∃ j : Nat, 2 * j ≤ n ∧ iv = .int .i64 ((2 * j : Nat) : Int) ∧ Hid (clashB (pairsTo xs j) a b = false) ∧ w = wr) (fun iv _ => n - (intOf iv).toNat)
  case atStart => exact ⟨0, Nat.zero_le _, rfl, h0, rfl⟩
  case round =>
    obtain ⟨j, hj, rfl, hT, rfl⟩ := hrel
    by_cases hlt : 2 * j < n
    · obtain ⟨g, o, rfl, p0⟩ := hC.out (2 * j) hlt
      obtain ⟨g', o', hab, p1⟩ := hC.out (2 * j + 1) (by omega)
      obtain ⟨rfl, rfl⟩ : g = g' ∧ o = o' := by simpa using hab
      clear hab
      have hNj := Lib.hid (hN.out j hT.out)
      have hYj := Lib.hid (hY.out j hlt)
      generalize xs.getD (2 * j) 0 = x at *
      generalize xs.getD (2 * j + 1) 0 = y at *
      generalize hm : 2 * j = m at *
      have hM := Lib.hid hm
      clear hm
      have t1 : ((m : Int) + 1).toNat = m + 1 := by omega
      have t2 : (0 : Int) ≤ (m : Int) + 1 := by omega
      have t3 : (m : Int) + 1 < n := by have := hM.out; omega
      have hw1 : IntKind.i64.wrap ((m : Int) + 1) = (m : Int) + 1 := IntWalk.i64_in _ (by omega)
      have hw2 : IntKind.i64.wrap ((m : Int) + 2) = ((2 * (j + 1) : Nat) : Int) := by rw [IntWalk.i64_in _ (by omega)]; have := hM.out; omega
      cases e1 : (x == a) <;> cases e2 : (y == b) <;> cases e3 : (x == b) <;> cases e4 : (y == a) <;>
        (rw [e1, e2, e3, e4] at hNj hYj; go_wp2_with fail; first | (go_ret; exact ⟨ret_bool (hYj.out rfl).symm, rfl⟩) | (have hT2 := Lib.hid (hNj.out rfl); go_roundw; (case rel => exact ⟨j + 1, by have := hM.out; omega, by first | rfl | go_num, hT2, by trivial⟩); (case measure => simp [intOf]; have := hM.out; omega)))
    · have hjn : 2 * j = n := Nat.le_antisymm hj (Nat.le_of_not_lt hlt)
      have hF := Lib.hid (hE.out j hjn hT.out)
      have hc1 : ((2 * j : Nat) : Int) = (n : Int) := by rw [hjn]
      clear hjn hlt hj
      go_wp2_with fail
      go_ret
      exact ⟨ret_bool (by rw [hF.out]), rfl⟩
theorem clashesOf_is {q : Bool} (B : Nat) (v : Value) (xs : List Int) (e : Int) (w : World) (h : LstI B w v xs) (hB : B ≤ w.heap.size) (hq : clashOk e xs = q) :
    Calls Try.prog 51 #[.int .i64 e, v] w fun x w' => ((q = false ∧ x = .returned (.tuple #[.slice none 0 0, .bool false])) ∨
      (q = true ∧ ∃ g, x = .returned (.tuple #[.slice (some ⟨g, 0, none⟩) e.toNat e.toNat, .bool true]) ∧ w'.ownsRow w.heap.size 3 1 (.slice (some ⟨g, 0, none⟩) e.toNat e.toNat) e.toNat ((setsN e.toNat (pairsL xs)).map (Value.int .i64)))) ∧ Below w.heap.size w w' := by
  rw [← hq]; exact clashesOf_any B v xs e w h hB
set_option maxHeartbeats 4000000 in
set_option maxRecDepth 100000 in
theorem implColourBy_any (B : Nat) (v1 v2 : Value) (e : Int) (xs ord : List Int) (w : World) (h1 : LstI B w v1 xs) (h2 : LstI B w v2 ord) (hB : B ≤ w.heap.size) (hwf : ∀ x ∈ ord, (Lit.int .i64 x).wf = true) :
    Calls Try.prog 19 #[.int .i64 e, v1, v2] w (ListPost (colByR e xs ord) (colByOk e xs ord) w) := by
  have hNo : Hid (colByOk e xs ord = false → ∀ w', Below w.heap.size w w' → ListPost (colByR e xs ord) (colByOk e xs ord) w (.returned (.tuple #[.slice none 0 0, .bool false])) w') := Lib.hid fun hq w' hb => list_no (by unfold colByR; rw [hq]; rfl) hq hb
  have hLo : Hid (∀ w', Below w.heap.size w w' → LstI w.heap.size w' v2 ord) := Lib.hid fun w' hb => (h2.below hb hB).mono hB
  cases hq : clashOk e xs
  · have hC := Lib.hid (clashesOf_is B v1 xs e w h1 hB hq)
    have hN := Lib.hid (hNo.out (by unfold colByOk; rw [hq]; rfl))
    obtain ⟨a1, cap1, rfl, hl1, _⟩ := h1.at_
    obtain ⟨a2, cap2, rfl, hl2, _⟩ := h2.at_
    generalize ListPost (colByR e xs ord) (colByOk e xs ord) w = Q at *
    clear h1 h2 hq hNo hLo
    generalize xs.length = n1 at *
    generalize ord.length = n2 at *
    unfold maxLen at hl1 hl2
    go_enter Try.func19, Try.ntmps19
    go_wp2_with fail
    refine hC.out.mono ?_
    rintro x w1 ⟨hx, hb⟩
    rcases hx with ⟨-, rfl⟩ | ⟨hf, -⟩
    · have hR := Lib.hid (hN.out w1 hb)
      clear hb hC
      go_wp2_with fail
      first | exact hR.out | (go_ret2; exact hR.out)
    · cases hf
  · obtain ⟨r1, r9⟩ := clashOk_in hq
    obtain ⟨r2, r3, r4, r5, _⟩ := clashNo_in r1
    obtain ⟨E, rfl⟩ : ∃ E : Nat, e = (E : Int) := ⟨e.toNat, by omega⟩
    have hC := Lib.hid (clashesOf_is B v1 xs E w h1 hB hq)
    have hPI := Lib.hid (clash_pairs hq)
    have hOk : colByOk E xs ord = isOrd ord E := by unfold colByOk; rw [hq, Bool.true_and]
    have hIo : isOrder ord E = isOrd ord E := by unfold isOrder; rw [show inB (E : Int) 1 24 = true by unfold inB; rw [decide_eq_true]; omega, Bool.true_and]
    have hO : Hid (∀ w', Below w.heap.size w w' → Calls Try.prog 52 #[v2, .int .i64 (E : Int)] w' fun e w'' => e = .returned (.bool (colByOk E xs ord)) ∧ Below w'.heap.size w' w'') := Lib.hid fun w' hb => by
      rw [hOk, ← hIo]
      exact implIsOrder_any w.heap.size v2 ord E w' (hLo.out w' hb) hb.size hwf
    obtain ⟨a1, cap1, rfl, hl1, _⟩ := h1.at_
    obtain ⟨a2, cap2, rfl, hl2, _⟩ := h2.at_
    rw [show ((E : Int)).toNat = E by omega] at hC
    cases hq2 : colByOk E xs ord
    · have hN := Lib.hid (hNo.out hq2)
      rw [hq2] at hO hN
      generalize ListPost (colByR E xs ord) false w = Q at *
      clear h1 h2 hq hNo hLo hPI hOk hIo hq2 hwf r1 r9
      generalize xs.length = n1 at *
      generalize ord.length = n2 at *
      unfold maxLen at hl1 hl2
      go_enter Try.func19, Try.ntmps19
      go_wp2_with fail
      refine hC.out.mono ?_
      rintro x w1 ⟨hx, hb⟩
      rcases hx with ⟨hf, -⟩ | ⟨-, gs, rfl, -⟩
      · cases hf
      · have hO1 := Lib.hid (hO.out w1 hb)
        have hB1 := Lib.hid hb
        clear hb hC hO
        go_wp2_with (go_at_call 52; (with_reducible refine hO1.out.mono ?_); rintro e' w2 ⟨rfl, hb2⟩; have hB2 := Lib.hid (hN.out w2 (below_on hB1.out (Nat.le_refl _) hb2)); clear hb2)
        first | exact hB2.out | (go_ret2; exact hB2.out)
    · have hlen : ord.length = E := by have := isOrd_len (show isOrd ord E = true by rw [← hOk]; exact hq2); omega
      have hGet : Hid (∀ k, k < E → ∃ x : Nat, x < E ∧ ord.getD k 0 = (x : Int) ∧ ord[k]? = some (x : Int)) := Lib.hid fun k hk => by
        have hx : ord[k]? = some (ord.getD k 0) := by rw [List.getD_eq_getElem?_getD, List.getElem?_eq_getElem (by omega)]; rfl
        obtain ⟨x0, x1⟩ := isOrd_get (show isOrd ord E = true by rw [← hOk]; exact hq2) hx
        exact ⟨(ord.getD k 0).toNat, by omega, by omega, by rw [hx]; congr 1; omega⟩
      have hR : Hid (∀ w' gc, w.heap.size ≤ gc → w'.ownsRow gc 2 1 (.slice (some ⟨gc, 0, none⟩) E E) E ((colTo (pairsL xs) E ord E).map (Value.int .i64)) → Below w.heap.size w w' → ListPost (colByR E xs ord) true w (.returned (.tuple #[.slice (some ⟨gc, 0, none⟩) E E, .bool true])) w') := Lib.hid fun w' gc hg ho hb => by
        have hr : colByR E xs ord = colTo (pairsL xs) E ord E := by unfold colByR; rw [hq2, if_pos rfl, hlen]; rfl
        rw [hr]
        exact list_yes rfl hg (colTo_length _ _ _ _) ho (by omega) hb
      have hCL : Hid (∀ k, (colTo (pairsL xs) E ord k).length = E) := Lib.hid fun k => colTo_length _ _ _ k
      have hC0 : Hid (colTo (pairsL xs) E ord 0 = List.replicate E (-1)) := Lib.hid rfl
      have hCS : Hid (∀ k, colTo (pairsL xs) E ord (k + 1) = (colTo (pairsL xs) E ord k).set (ord.getD k 0).toNat (freeCol (pairsL xs) E (ord.getD k 0) (colTo (pairsL xs) E ord k) : Int)) := Lib.hid fun k => rfl
      have hFr : Hid (∀ (x : Int) (k : Nat), takenTo (pairsL xs) x (k : Int) (colTo (pairsL xs) E ord k) E = false) := Lib.hid fun x k => colTo_free _ _ _ x k
      have hIs : Hid (∀ (x : Int) (out : List Int) (m : Nat), takenTo (pairsL xs) x (m : Int) out E = false → m ≤ 13 → (∀ i : Nat, i < m → takenTo (pairsL xs) x (i : Int) out E = true) → freeCol (pairsL xs) E x out = m) := Lib.hid fun x out m h1 h2 h3 => freeCol_is h1 h2 h3
      have hFree : Hid (∀ (gs gc x c : Nat) (out : List Int) (w' : World), x < E → w'.cell? ⟨gs, x, none⟩ = some (.int .i64 (adjN (pairsL xs) x : Int)) → (∀ k, k < E → w'.cell? ⟨gc, k, none⟩ = some (.int .i64 (out.getD k 0))) →
          Calls Try.prog 54 #[.slice (some ⟨gs, 0, none⟩) E E, .int .i64 (x : Int), .int .i64 (c : Int), .slice (some ⟨gc, 0, none⟩) E E] w' fun y w'' => y = .returned (.bool (!takenTo (pairsL xs) (x : Int) (c : Int) out E)) ∧ w' = w'') := Lib.hid fun gs gc x c out w' hx hs hc => isFree_any E gs gc x c (pairsL xs) out w' (by omega) hx hPI.out hs E hc
      have hSet : Hid (∀ (w' : World) (A gs : Nat), w'.ownsRow A 3 1 (.slice (some ⟨gs, 0, none⟩) E E) E ((setsN E (pairsL xs)).map (Value.int .i64)) → ∀ x, x < E → w'.cell? ⟨gs, x, none⟩ = some (.int .i64 (adjN (pairsL xs) x : Int))) := Lib.hid fun w' A gs ho x hx => by
        rw [row_cell ho (k := x) (by rw [setsN_length]; exact hx), getD_of (setsN_get _ hx)]
      rw [hq2] at hO
      generalize ListPost (colByR E xs ord) true w = Q at *
      clear h1 h2 hq hNo hOk hIo hq2 hwf r1 r9 hPI
      generalize setsN E (pairsL xs) = SN at *
      generalize adjN (pairsL xs) = AN at *
      generalize pairsL xs = PL at *
      generalize hCT : colTo PL E ord = CT at *
      clear hCT
      generalize xs.length = n1 at *
      have hLi := Lib.hid hlen
      rw [hlen] at hl2 hLo hO ⊢
      clear hlen
      unfold maxLen at hl1 hl2
      go_enter Try.func19, Try.ntmps19
      go_wp2_with fail
      refine hC.out.mono ?_
      rintro x w1 ⟨hx, hb⟩
      rcases hx with ⟨hf, -⟩ | ⟨-, gs, rfl, hS1⟩
      · cases hf
      have hO1 := Lib.hid (hO.out w1 hb)
      have hB1 := Lib.hid hb
      have hSS := Lib.hid hS1
      clear hb hC hO hS1
      go_wp2_with (go_at_call 52; (with_reducible refine hO1.out.mono ?_); rintro e' w2 ⟨rfl, hb2⟩; have hB2 := Lib.hid (below_on hB1.out (Nat.le_refl _) hb2); have hS2 := Lib.hid (ownsRow_kept hSS.out hb2); clear hb2)
      have hS7 := Lib.hid (hS2.out.alloc (.cells #[.int .i64 (-1)] 2))
      have hB7 := Lib.hid (hB2.out.alloc hB2.out.size (.cells #[.int .i64 (-1)] 2))
      have hRp := Lib.hid (repeat_any w2.heap.size (-1) E (w2.alloc (.cells #[.int .i64 (-1)] 2)) (by omega) (by omega) (news1 w2 2 (.int .i64 (-1)) 0 (.int .i64 (-1)) rfl) (by simp))
      clear hS2 hB2 hB1 hSS hO1
      generalize w2.alloc _ = w7 at *
      refine hRp.out.mono ?_
      rintro x w8 ⟨rfl, ho8, hb8⟩
      have hO8 := Lib.hid (show w8.ownsRow w7.heap.size 2 1 (.slice (some ⟨w7.heap.size, 0, none⟩) E E) E ((CT 0).map (Value.int .i64)) by rw [hC0.out]; exact ho8)
      have hB8 := Lib.hid hb8
      have hg7 := Lib.hid hB7.out.size
      clear ho8 hb8 hRp hC0
      generalize hgg : w7.heap.size = gc at *
      have hGG := Lib.hid hgg
      clear hgg
      go_wp2_with fail
      go_loopw [34] (fun iv wr => ∃ k : Nat, k ≤ E ∧ iv = .int .i64 k ∧ Hid (wr.ownsRow gc 2 1 (.slice (some ⟨gc, 0, none⟩) E E) E ((CT k).map (Value.int .i64))) ∧ Hid (Below gc w7 wr)) (fun iv _ => E - (intOf iv).toNat)
      case atStart => exact ⟨0, Nat.zero_le _, rfl, hO8, hB8⟩
      case round =>
        clear hO8 hB8
        obtain ⟨k, hk, rfl, hO, hBk⟩ := hrel
        have hBw := Lib.hid (show Below w.heap.size w wr from below_on hB7.out (Nat.le_refl _) (by rw [hGG.out]; exact hBk.out))
        by_cases hlt : k < E
        · obtain ⟨x, hx, hgx, hox⟩ := hGet.out k hlt
          have hL2 := hLo.out wr hBw.out
          obtain ⟨ao, co, hv, _, _, _, hoc⟩ := hL2.at_
          injection hv with e1 e2 e3
          subst e1 e3
          clear e2
          obtain ⟨b1, o1, y, rfl, hb1, hy, p0⟩ := hoc k (by rw [hLi.out]; exact hlt)
          obtain rfl : y = (x : Int) := by rw [hox] at hy; exact (Option.some.inj hy).symm
          have hcs := Lib.hid (hSet.out wr w.heap.size gs (ownsRow_kept hS7.out (by rw [hGG.out]; exact hBk.out)) x hx)
          have hcc : Hid (∀ j, j < E → wr.cell? ⟨gc, j, none⟩ = some (.int .i64 ((CT k).getD j 0))) := Lib.hid fun j hj => row_cell hO.out (by rw [hCL.out]; exact hj)
          have hFc := Lib.hid (fun c : Nat => hFree.out gs gc x c (CT k) wr hx hcs.out hcc.out)
          have hTk := Lib.hid (hFr.out (x : Int) k)
          have hIk := Lib.hid (fun m : Nat => hIs.out (x : Int) (CT k) m)
          have hSk := Lib.hid (show ∀ m : Nat, freeCol PL E (x : Int) (CT k) = m → CT (k + 1) = (CT k).set x (m : Int) from fun m hm => by rw [hCS.out k, hgx, hm]; rfl)
          have hxE : (x : Int) < E := by omega
          have fr : wr.frozen? ⟨gc, x, none⟩ = false := hO.out.frozenAt x
          have q0 : wr.cell? ⟨gc, x, none⟩ = some (.int .i64 ((CT k).getD x 0)) := hcc.out x hx
          clear hy hoc hL2 hox hcs
          generalize hTT : (fun c : Nat => takenTo PL (x : Int) (c : Int) (CT k) E) = T at *
          have hTe : Hid (∀ c : Nat, takenTo PL (x : Int) (c : Int) (CT k) E = T c) := Lib.hid fun c => by rw [← hTT]
          clear hTT
          go_wp2_with fail
          go_loopw [13] (fun cv w' => ∃ c : Nat, c ≤ k ∧ cv = .int .i64 c ∧ Hid (∀ i : Nat, i < c → T i = true) ∧ w' = wr) (fun cv _ => 13 - (intOf cv).toNat)
          case atStart => exact ⟨0, Nat.zero_le _, rfl, Lib.hid fun i hi => absurd hi (Nat.not_lt_zero _), rfl⟩
          case round =>
            obtain ⟨c, hck, rfl, hAll, rfl⟩ := hrel
            have hF1 := Lib.hid (show Calls Try.prog 54 #[.slice (some ⟨gs, 0, none⟩) E E, .int .i64 (x : Int), .int .i64 (c : Int), .slice (some ⟨gc, 0, none⟩) E E] wr fun y w'' => y = .returned (.bool (!T c)) ∧ wr = w'' by rw [← hTe.out c]; exact hFc.out c)
            cases ht : T c
            case true =>
              rw [ht] at hF1
              have hAll2 : Hid (∀ i : Nat, i < c + 1 → T i = true) := Lib.hid fun i hi => by
                by_cases h1 : i < c
                · exact hAll.out i h1
                · rw [show i = c by omega]; exact ht
              have hck2 : c < k := by
                have h9 : T k = false := by rw [← hTe.out k]; exact hTk.out
                have h3 : c ≠ k := fun e => by rw [e, h9] at ht; cases ht
                omega
              clear ht
              go_wp2_with (go_at_call 54; (with_reducible refine hF1.out.mono ?_); rintro e' w'' ⟨rfl, rfl⟩)
              go_roundw
              case rel => exact ⟨c + 1, by omega, by go_num, hAll2, by trivial⟩
              case measure => simp [intOf]; omega
            case false =>
              rw [ht] at hF1
              have hfc := hIk.out c (by rw [hTe.out c]; exact ht) (by omega) (fun i hi => by rw [hTe.out i]; exact hAll.out i hi)
              have hrs := row_set hO.out x (c : Int)
              have hO9 := Lib.hid (show (wr.setCell ⟨gc, x, none⟩ (.int .i64 (c : Int))).ownsRow gc 2 1 (.slice (some ⟨gc, 0, none⟩) E E) E ((CT (k + 1)).map (Value.int .i64)) by rw [hSk.out c hfc]; exact hrs.1)
              have hB9 := Lib.hid (hBk.out.setCell (p := ⟨gc, x, none⟩) (Nat.le_refl _) (.int .i64 (c : Int)))
              clear ht hfc hrs
              go_wp2_with (go_at_call 54; (with_reducible refine hF1.out.mono ?_); rintro e' w'' ⟨rfl, rfl⟩)
              go_roundw
              case rel => exact ⟨k + 1, by omega, by go_num, hO9, hB9⟩
              case measure => simp [intOf]; omega
        · obtain rfl : k = E := by omega
          have hQ := Lib.hid (hR.out wr gc hg7.out hO.out hBw.out)
          clear hO hBk
          go_wp2_with fail
          first | exact hQ.out | (go_ret2; exact hQ.out)
theorem row_shape {w : World} {A k n : Nat} {e : TypeId} {v : Value} {xs : List Value} (h : w.ownsRow A e k v n xs) (hn : 1 ≤ n) : ∃ g cap, v = .slice (some ⟨g, 0, none⟩) n cap := by
  obtain ⟨n', rfl⟩ : ∃ n', n = n' + 1 := ⟨n - 1, by omega⟩
  exact ownsRow_succ h
def boolN : Value → Nat
  | .bool true => 1
  | _ => 0
set_option maxHeartbeats 4000000 in
set_option maxRecDepth 100000 in
theorem specColourBy_any (B : Nat) (v1 v2 : Value) (e : Int) (xs ord : List Int) (w : World) (h1 : LstI B w v1 xs) (h2 : LstI B w v2 ord) (hB : B ≤ w.heap.size) :
    Calls Try.prog 18 #[.int .i64 e, v1, v2] w (ListPost (colByR e xs ord) (colByOk e xs ord) w) := by
  have hNo : Hid (colByOk e xs ord = false → ∀ w', Below w.heap.size w w' → ListPost (colByR e xs ord) (colByOk e xs ord) w (.returned (.tuple #[.slice none 0 0, .bool false])) w') := Lib.hid fun hq w' hb => list_no (by unfold colByR; rw [hq]; rfl) hq hb
  have hLo : Hid (∀ w', Below w.heap.size w w' → LstI w.heap.size w' v2 ord ∧ LstI w.heap.size w' v1 xs) := Lib.hid fun w' hb => ⟨(h2.below hb hB).mono hB, (h1.below hb hB).mono hB⟩
  have hDn : Hid (∀ m, Below w.heap.size w (w.drewN m)) := Lib.hid fun m => below_drewN (Below.refl _ _) m
  cases hq : clashOk e xs
  · have hC := Lib.hid (l07Clashes_any B v1 xs e w h1)
    rw [hq] at hC
    have hN := Lib.hid (hNo.out (by unfold colByOk; rw [hq]; rfl))
    obtain ⟨a1, cap1, rfl, hl1, _⟩ := h1.at_
    obtain ⟨a2, cap2, rfl, hl2, _⟩ := h2.at_
    generalize ListPost (colByR e xs ord) (colByOk e xs ord) w = Q at *
    clear h1 h2 hq hNo hLo
    generalize xs.length = n1 at *
    generalize ord.length = n2 at *
    unfold maxLen at hl1 hl2
    go_enter Try.func18, Try.ntmps18
    go_wp2_with (go_at_call 48; (with_reducible refine hC.out.mono ?_); rintro e' w' ⟨m, rfl, rfl⟩)
    have hR := Lib.hid (hN.out _ (hDn.out m))
    first | exact hR.out | (go_ret2; exact hR.out)
  · obtain ⟨r1, r9⟩ := clashOk_in hq
    obtain ⟨r2, r3, r4, r5, _⟩ := clashNo_in r1
    obtain ⟨E, rfl⟩ : ∃ E : Nat, e = (E : Int) := ⟨e.toNat, by omega⟩
    have hC := Lib.hid (l07Clashes_any B v1 xs E w h1)
    rw [hq] at hC
    have hOk : colByOk E xs ord = isOrd ord E := by unfold colByOk; rw [hq, Bool.true_and]
    have hO : Hid (∀ w', Below w.heap.size w w' → Calls Try.prog 49 #[v2, .int .i64 (E : Int)] w' (Ret (.bool (colByOk E xs ord)) w')) := Lib.hid fun w' hb => by
      rw [hOk]
      exact l02Orders_any w.heap.size v2 ord E w' (hLo.out w' hb).1 (by omega) (by omega)
    have hKl : Hid (∀ w' (a b : Int), Below w.heap.size w w' → Calls Try.prog 50 #[v1, .int .i64 a, .int .i64 b] w' fun e w'' => e = .returned (.bool (clashB (pairsL xs) a b)) ∧ w' = w'') := Lib.hid fun w' a b hb => l07Clash_any w.heap.size v1 xs a b w' (hLo.out w' hb).2 r5 r4
    obtain ⟨a1, cap1, rfl, hl1, _⟩ := h1.at_
    obtain ⟨a2, cap2, rfl, hl2, _⟩ := h2.at_
    cases hq2 : colByOk E xs ord
    · have hN := Lib.hid (hNo.out hq2)
      rw [hq2] at hO hN
      generalize ListPost (colByR E xs ord) false w = Q at *
      clear h1 h2 hq hNo hLo hOk hq2 r1 r9 hKl
      generalize xs.length = n1 at *
      generalize ord.length = n2 at *
      unfold maxLen at hl1 hl2
      go_enter Try.func18, Try.ntmps18
      go_wp2_with (first | (go_at_call 48; (with_reducible refine hC.out.mono ?_); rintro e' w' ⟨m, rfl, rfl⟩; have hO1 := Lib.hid (hO.out (w.drewN m) (hDn.out m))) | (go_at_call 49; (with_reducible refine hO1.out.mono ?_); rintro e' w' ⟨m2, rfl, rfl⟩))
      have hR := Lib.hid (hN.out _ (hDn.out (m + m2)))
      first | exact hR.out | (go_ret2; exact hR.out)
    · have hlen : ord.length = E := by have := isOrd_len (show isOrd ord E = true by rw [← hOk]; exact hq2); omega
      have hGet : Hid (∀ k, k < E → ∃ x : Nat, x < E ∧ ord.getD k 0 = (x : Int) ∧ ord[k]? = some (x : Int)) := Lib.hid fun k hk => by
        have hx : ord[k]? = some (ord.getD k 0) := by rw [List.getD_eq_getElem?_getD, List.getElem?_eq_getElem (by omega)]; rfl
        obtain ⟨x0, x1⟩ := isOrd_get (show isOrd ord E = true by rw [← hOk]; exact hq2) hx
        exact ⟨(ord.getD k 0).toNat, by omega, by omega, by rw [hx]; congr 1; omega⟩
      have hR : Hid (∀ w' v, w'.ownsRow w.heap.size 2 1 v E ((colTo (pairsL xs) E ord E).map (Value.int .i64)) → Below w.heap.size w w' → ListPost (colByR E xs ord) true w (.returned (.tuple #[v, .bool true])) w') := Lib.hid fun w' v ho hb => by
        have hr : colByR E xs ord = colTo (pairsL xs) E ord E := by unfold colByR; rw [hq2, if_pos rfl, hlen]; rfl
        rw [hr]
        exact list_yes rfl (Nat.le_refl _) (colTo_length _ _ _ _) ho (by omega) hb
      have hCL : Hid (∀ k, (colTo (pairsL xs) E ord k).length = E) := Lib.hid fun k => colTo_length _ _ _ k
      have hC0 : Hid (colTo (pairsL xs) E ord 0 = List.replicate E (-1)) := Lib.hid rfl
      have hCS : Hid (∀ k, colTo (pairsL xs) E ord (k + 1) = (colTo (pairsL xs) E ord k).set (ord.getD k 0).toNat (freeCol (pairsL xs) E (ord.getD k 0) (colTo (pairsL xs) E ord k) : Int)) := Lib.hid fun k => rfl
      have hFr : Hid (∀ (x : Int) (k : Nat), takenTo (pairsL xs) x (k : Int) (colTo (pairsL xs) E ord k) E = false) := Lib.hid fun x k => colTo_free _ _ _ x k
      have hIs : Hid (∀ (x : Int) (out : List Int) (m : Nat), takenTo (pairsL xs) x (m : Int) out E = false → m ≤ 13 → (∀ i : Nat, i < m → takenTo (pairsL xs) x (i : Int) out E = true) → freeCol (pairsL xs) E x out = m) := Lib.hid fun x out m h1 h2 h3 => freeCol_is h1 h2 h3
      have hTs : Hid (∀ (x c : Int) (out : List Int) (j : Nat), takenTo (pairsL xs) x c out (j + 1) = (takenTo (pairsL xs) x c out j || ((out.getD j 0 == c) && clashB (pairsL xs) x j))) := Lib.hid fun x c out j => takenTo_succ _ _ _ _ _
      have hT0 : Hid (∀ (x c : Int) (out : List Int), takenTo (pairsL xs) x c out 0 = false) := Lib.hid fun _ _ _ => rfl
      rw [hq2] at hO
      generalize ListPost (colByR E xs ord) true w = Q at *
      clear h1 h2 hq hNo hOk hq2 r1 r9
      generalize clashB (pairsL xs) = CB at *
      generalize pairsL xs = PL at *
      generalize hCT : colTo PL E ord = CT at *
      clear hCT
      generalize xs.length = n1 at *
      have hLi := Lib.hid hlen
      rw [hlen] at hl2 hLo hO ⊢
      clear hlen
      unfold maxLen at hl1 hl2
      obtain ⟨i0, hi, hz0, hz1, hz2⟩ := info_parts infoI
      go_enter Try.func18, Try.ntmps18
      go_wp2_with (first | (go_at_call 48; (with_reducible refine hC.out.mono ?_); rintro e' w' ⟨m, rfl, rfl⟩; have hO1 := Lib.hid (hO.out (w.drewN m) (hDn.out m))) | (go_at_call 49; (with_reducible refine hO1.out.mono ?_); rintro e' w' ⟨m2, rfl, rfl⟩))
      have hB2 := Lib.hid (hDn.out (m + m2))
      have hz2s : (w.drewN (m + m2)).heap.size = w.heap.size := by simp
      generalize w.drewN (m + m2) = w2 at *
      have hO3 := Lib.hid (show (w2.alloc (.cells #[] 2)).ownsRow w.heap.size 2 1 (.slice (some ⟨w2.heap.size, 0, none⟩) 0 0) 0 ((List.replicate 0 (-1 : Int)).map (Value.int .i64)) from World.ownsRow_lit w2 #[] 0 hB2.out.size (Nat.zero_le _) rfl)
      have hB3 := Lib.hid (hB2.out.alloc hB2.out.size (.cells #[] 2))
      rw [hz2s] at hO3
      clear hz2s
      clear hO1 hO hC hDn
      go_loopw [8, 9] (fun ov iv wr => ∃ k : Nat, k ≤ E ∧ iv = .int .i64 k ∧ Hid (wr.ownsRow w.heap.size 2 1 ov k ((List.replicate k (-1 : Int)).map (Value.int .i64))) ∧ Hid (Below w.heap.size w wr)) (fun _ iv _ => E - (intOf iv).toNat)
      case atStart => exact ⟨0, Nat.zero_le _, rfl, hO3, hB3⟩
      case round =>
        clear hO3 hB3
        obtain ⟨k, hk, rfl, hO, hBk⟩ := hrel
        by_cases hlt : k < E
        · go_wp2_with (at_builtin; refine wpList_append_own _ rfl _ _ _ rfl w.heap.size 2 i0 (.int .i64 0) 1 8 Try.underlying22 hi hz0 hz1 hz2 rfl (by decide) _ k _ rfl (hO.out.alloc _) ⟨wr.heap.size, 0, none⟩ 1 1 [.int .i64 (-1)] rfl rfl (news1 wr _ _) (one_int _) (by unfold maxLen; omega) (by omega) (grow_le hBk.out.size _) ?_; intro v8 w8 hown8 hgrow8 _)
          have hB8 := Lib.hid (below_app hBk.out hO.out hgrow8 hBk.out.size (Nat.le_refl _))
          have hO8 := Lib.hid (show w8.ownsRow w.heap.size 2 1 v8 (k + 1) ((List.replicate (k + 1) (-1 : Int)).map (Value.int .i64)) by rw [List.replicate_succ', List.map_append]; exact hown8)
          clear hown8 hgrow8 hO hBk
          go_roundw
          case rel => exact ⟨k + 1, by omega, by go_num, hO8, hB8⟩
          case measure => simp [intOf]; omega
        · obtain rfl : k = E := by omega
          obtain ⟨gc, cc, rfl⟩ := row_shape hO.out (by omega)
          have hO4 := Lib.hid (show wr.ownsRow w.heap.size 2 1 (.slice (some ⟨gc, 0, none⟩) k cc) k ((CT 0).map (Value.int .i64)) by rw [hC0.out]; exact hO.out)
          have hgc := Lib.hid (hO.out.lt gc rfl).1
          clear hO hi hz0 hz1 hz2 hlt
          have hkk := Lib.hid hk
          clear hk
          have hB4 := hBk
          clear hBk
          generalize hEE : k = E at *
          clear hEE hkk
          go_wp2_with fail
          go_loopw [35] (fun iv wr => ∃ k : Nat, k ≤ E ∧ iv = .int .i64 k ∧ Hid (wr.ownsRow w.heap.size 2 1 (.slice (some ⟨gc, 0, none⟩) E cc) E ((CT k).map (Value.int .i64))) ∧ Hid (Below w.heap.size w wr)) (fun iv _ => E - (intOf iv).toNat)
          case atStart => exact ⟨0, Nat.zero_le _, rfl, hO4, hB4⟩
          case round =>
            clear hO4 hB4
            obtain ⟨k, hk, rfl, hO, hBw⟩ := hrel
            by_cases hlt : k < E
            · obtain ⟨x, hx, hgx, hox⟩ := hGet.out k hlt
              have hL2 := (hLo.out _ hBw.out).1
              obtain ⟨ao, co, hv, _, _, _, hoc⟩ := hL2.at_
              injection hv with e1 e2 e3
              subst e1 e3
              clear e2
              obtain ⟨b1, o1, y, rfl, hb1, hy, p0⟩ := hoc k (by rw [hLi.out]; exact hlt)
              obtain rfl : y = (x : Int) := by rw [hox] at hy; exact (Option.some.inj hy).symm
              have hcc : Hid (∀ j, j < E → wr.cell? ⟨gc, j, none⟩ = some (.int .i64 ((CT k).getD j 0))) := Lib.hid fun j hj => row_cell hO.out (by rw [hCL.out]; exact hj)
              have hKc := Lib.hid (fun j : Nat => hKl.out wr (x : Int) (j : Int) hBw.out)
              have hTk := Lib.hid (hFr.out (x : Int) k)
              have hIk := Lib.hid (fun m : Nat => hIs.out (x : Int) (CT k) m)
              have hSk := Lib.hid (show ∀ m : Nat, freeCol PL E (x : Int) (CT k) = m → CT (k + 1) = (CT k).set x (m : Int) from fun m hm => by rw [hCS.out k, hgx, hm]; rfl)
              have hxE : (x : Int) < E := by omega
              have fr : wr.frozen? ⟨gc, x, none⟩ = false := hO.out.frozenAt x
              have q0 : wr.cell? ⟨gc, x, none⟩ = some (.int .i64 ((CT k).getD x 0)) := hcc.out x hx
              have hT0k := Lib.hid (fun c : Nat => hT0.out (x : Int) (c : Int) (CT k))
              have hTsk := Lib.hid (fun c j : Nat => hTs.out (x : Int) (c : Int) (CT k) j)
              clear hy hoc hL2 hox hT0 hTs hKl hLo
              go_wp2_with fail
              go_loopw [11, 12] (fun cv av w' => ∃ (c : Nat) (ag : Bool), c ≤ k ∧ cv = .int .i64 c ∧ av = .bool ag ∧ Hid (∀ i : Nat, i < c → takenTo PL (x : Int) (i : Int) (CT k) E = true) ∧ Hid (ag = false → takenTo PL (x : Int) (c : Int) (CT k) E = false) ∧ w' = wr) (fun cv av _ => 2 * (13 - (intOf cv).toNat) + boolN av)
              case atStart => exact ⟨0, true, Nat.zero_le _, rfl, rfl, Lib.hid fun i hi => absurd hi (Nat.not_lt_zero _), Lib.hid (fun h => by cases h), rfl⟩
              case round =>
                obtain ⟨c, ag, hck, rfl, rfl, hAll, hAg, rfl⟩ := hrel
                cases ag
                case true =>
                  clear hAg
                  have hT0c := Lib.hid (hT0k.out c)
                  have hTsc := Lib.hid (hTsk.out c)
                  go_wp2_with fail
                  go_loopw [12, 13] (fun av jv w' => ∃ (j : Nat) (b : Bool), j ≤ E ∧ jv = .int .i64 j ∧ av = .bool b ∧ Hid (b = takenTo PL (x : Int) (c : Int) (CT k) j) ∧ w' = wr) (fun _ jv _ => E - (intOf jv).toNat)
                  case atStart => exact ⟨0, false, Nat.zero_le _, rfl, rfl, Lib.hid hT0c.out.symm, rfl⟩
                  case round =>
                    obtain ⟨j, b, hj, rfl, rfl, hb, rfl⟩ := hrel
                    by_cases hjE : j < E
                    · have r0 := hcc.out j hjE
                      have hjE2 : (j : Int) < E := by omega
                      have hts := Lib.hid (hTsc.out j)
                      cases e1 : ((CT k).getD j 0 == (c : Int))
                      · have hb2 := Lib.hid (show b = takenTo PL (x : Int) (c : Int) (CT k) (j + 1) by rw [hts.out, e1, Bool.false_and, Bool.or_false]; exact hb.out)
                        generalize (CT k).getD j 0 = z at *
                        clear hts hb
                        go_wp2_with fail
                        go_roundw
                        case rel => exact ⟨j + 1, b, by omega, by go_num, rfl, hb2, by trivial⟩
                        case measure => simp [intOf]; omega
                      · cases e2 : CB (x : Int) (j : Int)
                        · have hK1 := Lib.hid (hKc.out j)
                          have hb2 := Lib.hid (show b = takenTo PL (x : Int) (c : Int) (CT k) (j + 1) by rw [hts.out, e2, Bool.and_false, Bool.or_false]; exact hb.out)
                          rw [e2] at hK1
                          generalize (CT k).getD j 0 = z at *
                          clear hts hb e2
                          go_wp2_with (go_at_call 50; (with_reducible refine hK1.out.mono ?_); rintro e' w' ⟨rfl, rfl⟩)
                          go_roundw
                          case rel => exact ⟨j + 1, b, by omega, by go_num, rfl, hb2, by trivial⟩
                          case measure => simp [intOf]; omega
                        · have hK1 := Lib.hid (hKc.out j)
                          have hb2 := Lib.hid (show true = takenTo PL (x : Int) (c : Int) (CT k) (j + 1) by rw [hts.out, e1, e2]; simp)
                          rw [e2] at hK1
                          generalize (CT k).getD j 0 = z at *
                          clear hts hb e2
                          go_wp2_with (go_at_call 50; (with_reducible refine hK1.out.mono ?_); rintro e' w' ⟨rfl, rfl⟩)
                          go_roundw
                          case rel => exact ⟨j + 1, true, by omega, by go_num, rfl, hb2, by trivial⟩
                          case measure => simp [intOf]; omega
                    · have hbE : b = takenTo PL (x : Int) (c : Int) (CT k) E := by rw [hb.out, show j = E by omega]
                      cases b
                      case true =>
                        have hAll2 : Hid (∀ i : Nat, i < c + 1 → takenTo PL (x : Int) (i : Int) (CT k) E = true) := Lib.hid fun i hi => by
                          by_cases h1 : i < c
                          · exact hAll.out i h1
                          · rw [show i = c by omega]; exact hbE.symm
                        have hck2 : c < k := by
                          have h9 := hTk.out
                          have h3 : c ≠ k := fun e => by rw [e, h9] at hbE; cases hbE
                          omega
                        clear hbE hb
                        go_wp2_with fail
                        go_roundw
                        case rel => exact ⟨c + 1, true, by omega, by go_num, rfl, hAll2, Lib.hid (fun h => by cases h), by trivial⟩
                        case measure => simp [intOf, boolN]; omega
                      case false =>
                        have hAg2 : Hid (false = false → takenTo PL (x : Int) (c : Int) (CT k) E = false) := Lib.hid fun _ => hbE.symm
                        clear hbE hb
                        go_wp2_with fail
                        go_roundw
                        case rel => exact ⟨c, false, by omega, by first | rfl | go_num, rfl, hAll, hAg2, by trivial⟩
                        case measure => simp [intOf, boolN] <;> omega
                case false =>
                  have hfc := hIk.out c (hAg.out rfl) (by omega) (fun i hi => hAll.out i hi)
                  have hrs := row_set hO.out x (c : Int)
                  have hO9 := Lib.hid (show (wr.setCell ⟨gc, x, none⟩ (.int .i64 (c : Int))).ownsRow w.heap.size 2 1 (.slice (some ⟨gc, 0, none⟩) E cc) E ((CT (k + 1)).map (Value.int .i64)) by rw [hSk.out c hfc]; exact hrs.1)
                  have hB9 := Lib.hid (hBw.out.setCell (p := ⟨gc, x, none⟩) hgc.out (.int .i64 (c : Int)))
                  clear hfc hrs
                  go_wp2_with fail
                  go_roundw
                  case rel => exact ⟨k + 1, by omega, by go_num, hO9, hB9⟩
                  case measure => simp [intOf]; omega
            · obtain rfl : k = E := by omega
              have hQ := Lib.hid (hR.out _ _ hO.out hBw.out)
              clear hO hBw
              go_wp2_with fail
              first | exact hQ.out | (go_ret2; exact hQ.out)
theorem colourBy_both (e : Int) (xs ord : List Int) (_ : (Lit.int .i64 e).wf = true) (_ : ∀ x ∈ xs, (Lit.int .i64 x).wf = true) (hwf : ∀ x ∈ ord, (Lit.int .i64 x).wf = true) : ∃ (r0 : List Int) (r1 : Bool), r0.length ≤ 1048576 ∧
    (∀ (B : Nat) (v1 v2 : Value) (w : World), LstI B w v1 xs → LstI B w v2 ord → B ≤ w.heap.size → Calls Try.prog 18 #[.int .i64 e, v1, v2] w fun e w' => ∃ v', e = .returned (.tuple #[v', .bool r1]) ∧ Lst.Own w.heap.size w'.heap.size w' v' 2 1 r0.length (r0.map (Value.int .i64)) ∧ Below w.heap.size w w') ∧
    (∀ (B : Nat) (v1 v2 : Value) (w : World), LstI B w v1 xs → LstI B w v2 ord → B ≤ w.heap.size → Calls Try.prog 19 #[.int .i64 e, v1, v2] w fun e w' => ∃ v', e = .returned (.tuple #[v', .bool r1]) ∧ Lst.Own w.heap.size w'.heap.size w' v' 2 1 r0.length (r0.map (Value.int .i64)) ∧ Below w.heap.size w w') :=
  ⟨colByR e xs ord, colByOk e xs ord, colByR_len e xs ord, fun B v1 v2 w h1 h2 hB => specColourBy_any B v1 v2 e xs ord w h1 h2 hB , fun B v1 v2 w h1 h2 hB => implColourBy_any B v1 v2 e xs ord w h1 h2 hB hwf⟩
end Go.Proofs.Ytfidppepchobeaa
