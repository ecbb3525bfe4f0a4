/- Contracts: the text of a list of float32, the model's loop and the program's. Conditions: the table of trailing zeros holds 4 in the place that 16 asks (the program's side). -/
import Derived.Test.YtfidppepchobeaaDoorFmtBits
import Derived.Test.YtfidppepchobeaaDoorLayText
import Derived.Test.YtfidppepchobeaaDoorPz
import Derived.Shelf.Strings.OnBuilder
import Derived.Shelf.Strings.Repeat
import Derived.Laws.Strings2
namespace Go.Proofs.YtfidppepchobeaaDoor
open Go.RowKit Go.Lst Go FloatKit

theorem lstF_at {B : Nat} {w : World} {v : Value} {xs : List Nat} (h : Lst B w v (xs.map (Value.float .f32))) : ∃ a cap, v = .slice a xs.length cap ∧ xs.length ≤ maxLen ∧ ∀ k, k < xs.length → ∃ b o x, a = some ⟨b, o, none⟩ ∧ b < B ∧ xs[k]? = some x ∧ w.cell? ⟨b, o + k, none⟩ = some (.float .f32 x) := by
  obtain ⟨a, cap, hv, hl, hc⟩ := h
  rw [List.length_map] at hv hl
  refine ⟨a, cap, hv, hl, fun k hk => ?_⟩
  have hne : xs.map (Value.float .f32) ≠ [] := fun e => by
    have := congrArg List.length e
    rw [List.length_map] at this
    simp at this
    rw [this] at hk
    simp at hk
  obtain ⟨b, o, ha, hb, hcell⟩ := hc hne
  exact ⟨b, o, xs[k]'hk, ha, hb, List.getElem?_eq_getElem hk, hcell k _ (by rw [List.getElem?_map, List.getElem?_eq_getElem hk]; rfl)⟩
/-- The text of a number. -/
def hexS (b : Nat) : ByteArray := hex8 (bitsOf b).toNat
theorem hexS_size (b : Nat) : (hexS b).size = 8 := hex8_size _
def numB (xs : List Nat) : ByteArray := if xs = [] then ⟨#[110, 111, 110, 101]⟩ else joinS comma (xs.map hexS)
def okFew (xs : List Nat) : Bool := decide (xs.length ≤ 256)
def numR (xs : List Nat) : ByteArray := if okFew xs then numB xs else ⟨#[]⟩
theorem numTo_size {xs : List Nat} (k : Nat) (hk : k ≤ xs.length) : (joinS comma ((xs.map hexS).take k)).size ≤ k * 21 := by
  have h := joinS_size comma 8 ((xs.map hexS).take k) (fun y hy => by
    obtain ⟨x, _, rfl⟩ := List.mem_map.1 (List.mem_of_mem_take hy)
    rw [hexS_size]; exact Nat.le_refl _)
  rw [List.length_take, List.length_map] at h
  have e1 : comma.size = 1 := rfl
  rw [e1] at h
  rw [show min k xs.length = k by omega] at h
  omega
theorem hexS_any (b : Nat) (hb : b < 4294967296) (w : World) : Calls Tryd.prog 21 #[.float .f32 b] w fun e w' => e = .returned (.string (hexS b)) ∧ Below w.heap.size w w' := l01Hex_any b hb w
set_option maxHeartbeats 2000000 in
set_option maxRecDepth 100000 in
theorem l01NText_any (B : Nat) (v : Value) (xs : List Nat) (w : World) (h : Lst B w v (xs.map (Value.float .f32))) (hW : ∀ x ∈ xs, x < 4294967296) (hn : xs.length ≤ 1048576) (hB : B ≤ w.heap.size) :
    Calls Tryd.prog 14 #[v] w fun e w' => e = .returned (.string (numB xs)) ∧ Below w.heap.size w w' := by
  obtain ⟨a, cap, rfl, hl, hc⟩ := lstF_at h
  have hD := Lib.hid (fun k x (hk : xs[k]? = some x) w' => hexS_any x (hW x (List.mem_of_getElem? hk)) w')
  have hSz := Lib.hid (fun k (hk : k ≤ xs.length) => numTo_size (xs := xs) k hk)
  have hDz := Lib.hid (fun (k x : Nat) (_ : xs[k]? = some x) => (show (hexS x).size ≤ 20 by rw [hexS_size]; omega))
  have hSt := Lib.hid (fun k x (h0 : 0 < k) (hk : xs[k]? = some x) => joinS_take comma (xs.map hexS) k (hexS x) h0 (by rw [List.getElem?_map, hk]; rfl))
  have h1 := Lib.hid (fun x (hk : xs[0]? = some x) => (show joinS comma ((xs.map hexS).take 1) = hexS x by
    match xs, hk with
    | y :: r, hk =>
      obtain rfl : y = x := by simpa using hk
      rfl))
  have hE : Hid (xs.length = 0 → numB xs = ⟨#[110, 111, 110, 101]⟩) := Lib.hid fun h0 => by unfold numB; rw [if_pos (List.length_eq_zero_iff.1 h0)]
  have hF : Hid (∀ k, 0 < k → k = xs.length → numB xs = joinS comma ((xs.map hexS).take k)) := Lib.hid fun k h0 hk => by
    unfold numB
    rw [if_neg (fun e => by rw [e] at hk; simp at hk; omega), List.take_of_length_le (by rw [List.length_map]; omega)]
  generalize numB xs = s at *
  have hC := Lib.hid hc
  have hBl := Lib.hid (show ∀ (w' : World) (b o : Nat) (x : Nat), Below w.heap.size w w' → b < B → w.cell? ⟨b, o, none⟩ = some (.float .f32 x) → w'.cell? ⟨b, o, none⟩ = some (.float .f32 x) from fun w' b o x hb hlt hx => by rw [hb.cell (p := ⟨b, o, none⟩) (Nat.lt_of_lt_of_le hlt hB)]; exact hx)
  generalize hlen : xs.length = n at *
  clear h hc hlen
  unfold maxLen at hl
  by_cases h0 : n = 0
  · have hS := Lib.hid (hE.out h0)
    subst h0
    go_enter Tryd.func14, Tryd.ntmps14
    go_wp2_with fail
    go_ret
    exact ⟨by rw [hS.out]; rfl, Below.refl _ _⟩
  have hn0 : ((n : Int) == 0) = false := by simp; omega
  obtain ⟨b, o, x0, rfl, hbB, hx0, hc0⟩ := hC.out 0 (by omega)
  have hx00 := Lib.hid hx0
  have hd0 := Lib.hid (hD.out 0 x0 hx0 w)
  have he0 := Lib.hid (h1.out x0 hx0)
  have hz0 := hDz.out 0 x0 hx0
  clear hx0
  rw [Nat.add_zero] at hc0
  go_enter Tryd.func14, Tryd.ntmps14
  go_wp2_with fail
  refine hd0.out.mono ?_
  rintro e w1 ⟨rfl, hb1⟩
  have hB1 := Lib.hid hb1
  clear hb1 hd0 hc0
  generalize hs0 : hexS x0 = t0 at *
  go_wp2_with fail
  go_loopw [3, 4] (fun sv iv wr => ∃ (k : Nat), 1 ≤ k ∧ k ≤ n ∧ iv = .int .i64 k ∧ sv = .string (joinS comma ((xs.map hexS).take k)) ∧ Hid (Below w.heap.size w wr)) (fun _ iv _ => n - (intOf iv).toNat)
  case atStart => exact ⟨1, Nat.le_refl _, by omega, rfl, by rw [he0.out], hB1⟩
  case round =>
    obtain ⟨k, hk1, hk, rfl, rfl, hBw⟩ := hrel
    by_cases hlt : k < n
    · obtain ⟨b', o', x, hab, hbB', hx, hcx⟩ := hC.out k hlt
      obtain ⟨rfl, rfl⟩ : b = b' ∧ o = o' := by simpa using hab
      have hcx1 := hBl.out wr b (o + k) x hBw.out hbB hcx
      have hxx := Lib.hid hx
      have hdx := Lib.hid (hD.out k x hx wr)
      have hsx := hDz.out k x hx
      have hst := Lib.hid (hSt.out k x (by omega) hx)
      have hsk := hSz.out k (by omega)
      clear hx hcx hab
      generalize hexS x = t at *
      generalize hJ : joinS comma ((xs.map hexS).take k) = acc at *
      clear hJ
      go_wp2_with fail
      refine hdx.out.mono ?_
      rintro e w2 ⟨rfl, hb2⟩
      have hB2 := Lib.hid (below_on hBw.out (Nat.le_refl _) hb2)
      clear hb2 hdx hcx1
      have hz1 : (⟨#[44]⟩ ++ t : ByteArray).size ≤ 21 := by rw [ByteArray.size_append]; show 1 + t.size ≤ 21; omega
      go_wp2_with fail
      go_roundw
      case rel => exact ⟨k + 1, by omega, by omega, by go_num, by rw [hst.out]; rfl, hB2⟩
      case measure => simp [intOf]; omega
    · obtain rfl : k = n := by omega
      have hS := Lib.hid (hF.out k (by omega) rfl)
      go_wp2_with fail
      go_ret
      exact ⟨by rw [hS.out]; rfl, hBw.out⟩
theorem fmtIn_any (n : Nat) (hn : n < 4294967296) (w : World) (hT : TzAt w) :
    Calls Tryd.prog 35 #[.int .i64 (n : Int), .int .i64 16] w fun e w' => (∃ k, 1 ≤ k ∧ k ≤ 8 ∧ n < 16 ^ k ∧ e = .returned (.string (strOfNums (hexL n k)))) ∧ Below w.heap.size w w' := by
  have hF := Lib.hid (formatBits_any n hn w hT)
  have hu : IntKind.u64.wrap (n : Int) = n := by rw [IntKind.wrap_u64]; omega
  have hd : decide ((n : Int) < 0) = false := decide_eq_false (by omega)
  clear hT
  go_enter Tryd.func35, Tryd.ntmps35
  go_wp2_with fail
  refine hF.out.mono ?_
  rintro e w' ⟨⟨k, k1, k2, k3, rfl⟩, hb⟩
  have hK := Lib.hid k3
  have hB := Lib.hid hb
  clear k3 hb
  go_wp2_with fail
  go_ret
  exact ⟨⟨k, k1, k2, hK.out, rfl⟩, hB.out⟩
theorem fmt16_any (n : Nat) (hn : n < 4294967296) (w : World) (hT : TzAt w) :
    Calls Tryd.prog 23 #[.int .i64 (n : Int), .int .i64 16] w fun e w' => (∃ k, 1 ≤ k ∧ k ≤ 8 ∧ n < 16 ^ k ∧ e = .returned (.string (strOfNums (hexL n k)))) ∧ Below w.heap.size w w' := by
  have hF := Lib.hid (fmtIn_any n hn w hT)
  clear hT
  go_enter Tryd.func23, Tryd.ntmps23
  go_wp2_with fail
  refine hF.out.mono ?_
  rintro e w' ⟨⟨k, k1, k2, k3, rfl⟩, hb⟩
  have hK := Lib.hid k3
  have hB := Lib.hid hb
  clear k3 hb
  go_wp2_with fail
  go_ret
  exact ⟨⟨k, k1, k2, hK.out, rfl⟩, hB.out⟩
theorem zeros_any (m : Nat) (hm : m ≤ 8) (w : World) : Calls Tryd.prog 25 #[.string ⟨#[48]⟩, .int .i64 (m : Int)] w fun e w' => e = .returned (.string (strOfNums (List.replicate m 48))) ∧ Below w.heap.size w w' := by
  have c := Any.strings_Repeat Tryd.lays105 Tryd.Builder_Extra_105 ⟨#[48]⟩ m w (by omega) (by show 1 * m ≤ _; omega)
  rw [show (⟨#[48]⟩ : ByteArray).data.toList = [48] from rfl, rep_zero] at c
  exact c
set_option maxHeartbeats 1000000 in
theorem numberText_any (b : Nat) (hb : b < 4294967296) (w : World) (hT : TzAt w) :
    Calls Tryd.prog 16 #[.float .f32 b] w fun e w' => e = .returned (.tuple #[.string (hexS b), .bool true]) ∧ Below w.heap.size w w' := by
  have hBb := Lib.hid (bitsOf_any b hb w)
  obtain ⟨z, hz, hzl⟩ := bits_nat b hb
  unfold hexS
  rw [hz] at hBb ⊢
  rw [show ((z : Nat) : Int).toNat = z by omega]
  have hF := Lib.hid (fun m => fmt16_any z hzl (w.drewN m) (hT.kept (below_drewN (Below.refl _ _) m)))
  have hBd : Hid (∀ m, Below w.heap.size w (w.drewN m)) := Lib.hid fun m => below_drewN (Below.refl _ _) m
  have hPd : Hid (∀ k, k ≤ 8 → z < 16 ^ k → strOfNums (List.replicate (8 - k) 48) ++ strOfNums (hexL z k) = hex8 z) := Lib.hid fun k h1 h2 => pad8 h1 h2
  have hSz : Hid (∀ k, (strOfNums (hexL z k)).size = k) := Lib.hid fun k => by rw [strOf_size, hexL_length]
  clear hb hz hT
  generalize hex8 z = S at *
  generalize hexL z = HL at *
  go_enter Tryd.func16, Tryd.ntmps16
  go_wp2_with fail
  refine hBb.out.mono ?_
  rintro e w1 ⟨m, rfl, rfl⟩
  go_wp2_with fail
  refine (hF.out m).mono ?_
  rintro e w2 ⟨⟨k, k1, k2, k3, rfl⟩, hb2⟩
  have hB2 := Lib.hid (below_on (hBd.out m) (by simp) hb2)
  have hp := Lib.hid (hPd.out k k2 k3)
  have hsz := hSz.out k
  have hzs : (strOfNums (List.replicate (8 - k) (48 : Int))).size = 8 - k := by rw [strOf_size, List.length_replicate]
  have hR := Lib.hid (fun w' => zeros_any (8 - k) (by omega) w')
  have h8 : (8 : Int) - (k : Int) = ((8 - k : Nat) : Int) := by omega
  have hw8 : IntKind.i64.wrap ((8 : Int) - (k : Int)) = ((8 - k : Nat) : Int) := by rw [h8]; exact IntWalk.i64_in _ (by omega)
  clear k3 hb2 h8
  generalize strOfNums (HL k) = A at *
  generalize strOfNums (List.replicate (8 - k) (48 : Int)) = Z at *
  go_wp2_with fail
  refine (hR.out _).mono ?_
  rintro e w3 ⟨rfl, hb3⟩
  have hB3 := Lib.hid (below_on hB2.out (Nat.le_refl _) hb3)
  clear hb3
  go_wp2_with fail
  first | exact ⟨by rw [← hp.out]; rfl, hB3.out⟩ | (go_ret2; exact ⟨by rw [← hp.out]; rfl, hB3.out⟩)
theorem infoS8 : (Tryd.prog.info? 9).map (fun i => (i.zero, i.size, i.bytes)) = some (some (.string ⟨#[]⟩), 1, 16) := by kernel_rfl
/-- strings.Join of a row of texts of the call's own. -/
theorem join_row (sep : ByteArray) (ts : List ByteArray) (g n : Nat) (A : Nat) (w : World) (hn : ts.length = n) (h : w.ownsRow A 9 1 (.slice (some ⟨g, 0, none⟩) n n) n (ts.map Value.string)) (hm : n ≤ 1048576) (hsz : (joinS sep ts).size ≤ 140737488355328) :
    Calls Tryd.prog 22 #[.slice (some ⟨g, 0, none⟩) n n, .string sep] w fun e w' => e = .returned (.string (joinS sep ts)) ∧ Below w.heap.size w w' := by
  subst hn
  have hg : g < w.heap.size := (h.lt g rfl).2
  have hj := joinS_lib sep ts
  have c := Any.strings_Join Tryd.lays156 Tryd.Builder_Extra_156 g 0 ts.length ts sep w (fun j x hx => by
    have hjl : j < ts.length := (List.getElem?_eq_some_iff.1 hx).1
    have := h.cellAt j (by omega)
    rw [Nat.zero_add, this, List.getElem?_map, hx]; rfl) hg (by omega) (Nat.le_refl _) (by
    have e : (Lib.join (ts.map (·.data.toList)) sep.data.toList).length = (joinS sep ts).size := by rw [← hj]; simp [ByteArray.size]
    rw [e]; exact hsz)
  rw [hj] at c
  exact c
set_option maxHeartbeats 4000000 in
set_option maxRecDepth 100000 in
theorem itemsF_any (B : Nat) (v : Value) (xs : List Nat) (w : World) (h : Lst B w v (xs.map (Value.float .f32))) (hW : ∀ x ∈ xs, x < 4294967296) (hB : B ≤ w.heap.size) (hT : TzAt w) :
    Calls Tryd.prog 15 #[v, .int .i64 256, .func (.func 16) #[] #[]] w fun e w' => e = .returned (.tuple #[.string (numR xs), .bool (okFew xs)]) ∧ Below w.heap.size w w' := by
  obtain ⟨a, cap, rfl, hl, hc⟩ := lstF_at h
  by_cases hbig : 256 < xs.length
  · have hR : numR xs = ⟨#[]⟩ := by unfold numR okFew; rw [decide_eq_false (by omega)]; rfl
    have hK : okFew xs = false := by unfold okFew; rw [decide_eq_false (by omega)]
    rw [hR, hK]
    generalize xs.length = n at *
    clear h hc hR hK
    unfold maxLen at hl
    have hd : decide ((256 : Int) < (n : Int)) = true := decide_eq_true (by omega)
    go_enter Tryd.func15, Tryd.ntmps15
    go_wp2_with fail
    first | exact ⟨rfl, Below.refl _ _⟩ | (go_ret2; exact ⟨rfl, Below.refl _ _⟩)
  by_cases h0 : xs.length = 0
  · obtain rfl : xs = [] := List.length_eq_zero_iff.1 h0
    have hR : numR [] = ⟨#[110, 111, 110, 101]⟩ := rfl
    have hK : okFew [] = true := rfl
    rw [hR, hK]
    clear h hc hR hK
    go_enter Tryd.func15, Tryd.ntmps15
    go_wp2_with fail
    first | exact ⟨rfl, Below.refl _ _⟩ | (go_ret2; exact ⟨rfl, Below.refl _ _⟩)
  obtain ⟨i0, hi, hz0, hz1, hz2⟩ := info_parts infoS8
  have hbig' : ¬ (256 < xs.length) := hbig
  have hYes : Hid (okFew xs = true ∧ numR xs = joinS comma (xs.map hexS) ∧ (joinS comma (xs.map hexS)).size ≤ 140737488355328) := Lib.hid (by
    have e : okFew xs = true := by unfold okFew; rw [decide_eq_true (by omega)]
    refine ⟨e, by unfold numR; rw [e]; show numB xs = _; unfold numB; rw [if_neg (fun e => h0 (by rw [e]; rfl))], ?_⟩
    have := joinS_size comma 8 (xs.map hexS) (fun y hy => by
      obtain ⟨x, _, rfl⟩ := List.mem_map.1 hy
      rw [hexS_size]; exact Nat.le_refl _)
    rw [List.length_map] at this
    have e1 : comma.size = 1 := rfl
    rw [e1] at this
    omega)
  have hWx : Hid (∀ k x, xs[k]? = some x → x < 4294967296) := Lib.hid fun k x hk => hW x (List.mem_of_getElem? hk)
  have hMp : Hid ((List.range xs.length).map (fun i => Value.string (hexS (xs.getD i 0))) = (xs.map hexS).map Value.string) := Lib.hid (by
    apply List.ext_getElem?
    intro i
    by_cases hi : i < xs.length
    · simp [List.getElem?_eq_getElem hi, List.getElem?_range hi]
    · rw [List.getElem?_eq_none (by simp; omega), List.getElem?_eq_none (by simp; omega)])
  have hTx : Hid (∀ k x, xs[k]? = some x → hexS (xs.getD k 0) = hexS x) := Lib.hid fun k x hk => by rw [List.getD_eq_getElem?_getD, hk]; rfl
  have hBl := Lib.hid (show ∀ (w' : World) (b o : Nat) (x : Nat), Below w.heap.size w w' → b < B → w.cell? ⟨b, o, none⟩ = some (.float .f32 x) → w'.cell? ⟨b, o, none⟩ = some (.float .f32 x) from fun w' b o x hb hlt hx => by rw [hb.cell (p := ⟨b, o, none⟩) (Nat.lt_of_lt_of_le hlt hB)]; exact hx)
  have hJl := Lib.hid (show (xs.map hexS).length = xs.length by rw [List.length_map])
  have hC := Lib.hid hc
  have hTT := Lib.hid (fun w' (hb : Below w.heap.size w w') => hT.kept hb)
  generalize hts : xs.map hexS = ts at *
  generalize htx : (fun i => Value.string (hexS (xs.getD i 0))) = F at *
  have hFk : Hid (∀ k x, xs[k]? = some x → F k = .string (hexS x)) := Lib.hid fun k x hk => by rw [← htx]; show Value.string _ = _; rw [hTx.out k x hk]
  generalize okFew xs = q at *
  generalize numR xs = s at *
  generalize hlen : xs.length = n at *
  have hLn := Lib.hid hlen
  clear h hc hlen hts htx hT hTx hW
  unfold maxLen at hl
  have hn0 : ((n : Int) == 0) = false := by simp; omega
  have hd : decide ((256 : Int) < (n : Int)) = false := decide_eq_false (by omega)
  go_enter Tryd.func15, Tryd.ntmps15
  go_wp2_with (at_make; refine wpList_make_full _ rfl _ _ _ rfl w.heap.size _ i0 (.string ⟨#[]⟩) 1 Tryd.underlying41 hi hz0 hz1 _ _ _ _ n rfl rfl rfl rfl ?c1 ?c2 ?c3 ?_)
  case c1 => rw [hz2]; omega
  case c2 => unfold maxLen; omega
  case c3 => exact Nat.le_refl _
  intro w2 hown2 hg2
  rw [toList_madeCells_one] at hown2
  have hO2 := Lib.hid (show w2.ownsRow w.heap.size 9 1 (.slice (some ⟨w.heap.size, 0, none⟩) n n) n (pz F (.string ⟨#[]⟩) 0 n) by rw [pz_zero]; exact hown2)
  have hB2 := Lib.hid ((Below.refl w.heap.size w).grown hg2 (Nat.le_refl _) (fun k hk => by cases hk))
  have hSet : Hid (∀ i, i < n → (pz F (.string ⟨#[]⟩) i n).set i (F i) = pz F (.string ⟨#[]⟩) (i + 1) n) := Lib.hid fun i hi => pz_set F _ hi
  have hAt : Hid (∀ i, i < n → (pz F (.string ⟨#[]⟩) i n)[i]? = some (.string ⟨#[]⟩)) := Lib.hid fun i hi => pz_at _ _ hi
  have hFull : Hid (pz F (.string ⟨#[]⟩) n n = (List.range n).map F) := Lib.hid (pz_full _ _ _)
  generalize hFS : pz F (.string ⟨#[]⟩) = FS at *
  clear hown2 hg2 hFS
  go_wp2_with fail
  go_loopw [25] (fun iv wr => ∃ (k : Nat), k ≤ n ∧ iv = .int .i64 k ∧ Hid (wr.ownsRow w.heap.size 9 1 (.slice (some ⟨w.heap.size, 0, none⟩) n n) n (FS k n)) ∧ Hid (Below w.heap.size w wr)) (fun iv _ => n - (intOf iv).toNat)
  case atStart => exact ⟨0, Nat.zero_le _, rfl, hO2, hB2⟩
  case round =>
    clear hO2 hB2
    obtain ⟨k, hk, rfl, hO, hBw⟩ := hrel
    by_cases hlt : k < n
    · obtain ⟨b, o, x, rfl, hbB, hx, hcx⟩ := hC.out k hlt
      have hcx1 := hBl.out wr b (o + k) x hBw.out hbB hcx
      have hxx := Lib.hid hx
      have hFx := Lib.hid (hFk.out k x hx)
      clear hcx hx
      have hVy := Lib.hid (numberText_any x (hWx.out k x hxx.out) wr (hTT.out wr hBw.out))
      have hSk := Lib.hid (hSet.out k hlt)
      have hAk := Lib.hid (hAt.out k hlt)
      skip
      generalize hexS x = t at *
      go_wp2_with (go_at_call 16; (with_reducible refine hVy.out.mono ?_); rintro e w3 ⟨rfl, hb3⟩; have hB3 := Lib.hid (below_on hBw.out (Nat.le_refl _) hb3); have hO3 := Lib.hid (ownsRow_kept hO.out hb3); have q0 : w3.cell? ⟨w.heap.size, k, none⟩ = some (.string ⟨#[]⟩) := (hO3.out.cellAt k (by omega)).trans hAk.out; have f0 := hO3.out.frozenAt k; clear hb3)
      have hO4 := Lib.hid (show (w3.setCell ⟨w.heap.size, k, none⟩ (.string t)).ownsRow w.heap.size 9 1 (.slice (some ⟨w.heap.size, 0, none⟩) n n) n (FS (k + 1) n) by rw [← hSk.out, hFx.out]; exact (hO3.out.stored k (.string t)).1)
      have hB4 := Lib.hid (hB3.out.setCell (p := ⟨w.heap.size, k, none⟩) (Nat.le_refl _) (.string t))
      go_roundw
      case rel => exact ⟨k + 1, by omega, by go_num, hO4, hB4⟩
      case measure => simp [intOf]; omega
    · obtain rfl : k = n := by omega
      obtain ⟨hq, hs, hz⟩ := hYes.out
      have hO5 := Lib.hid (show wr.ownsRow w.heap.size 9 1 (.slice (some ⟨w.heap.size, 0, none⟩) k k) k (ts.map Value.string) by rw [← hMp.out, ← hFull.out]; exact hO.out)
      have hJn := Lib.hid (join_row comma ts w.heap.size k w.heap.size wr hJl.out hO5.out (by omega) hz)
      have hq2 := Lib.hid hq
      have hs2 := Lib.hid hs
      clear hq hs hz
      generalize joinS comma ts = r at *
      unfold comma at hJn
      go_wp2_with (go_at_call 22; (with_reducible refine hJn.out.mono ?_); rintro e w3 ⟨rfl, hb3⟩; have hB3 := Lib.hid (below_on hBw.out (Nat.le_refl _) hb3); clear hb3)
      first | exact ⟨by rw [hq2.out, hs2.out]; rfl, hB3.out⟩ | (go_ret2; exact ⟨by rw [hq2.out, hs2.out]; rfl, hB3.out⟩)
end Go.Proofs.YtfidppepchobeaaDoor
