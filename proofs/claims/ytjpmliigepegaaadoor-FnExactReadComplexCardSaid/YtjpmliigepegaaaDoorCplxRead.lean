/- Contracts: the list of complex numbers that a text spells, read by the program. Conditions: internal/bytealg.MaxLen holds some int. -/
import Derived.Test.YtjpmliigepegaaaDoorNumRead
import Derived.Test.YtjpmliigepegaaaDoorCplxLaw
namespace Go.Proofs.YtjpmliigepegaaaDoor
open Go.RowKit Go.Lst Go FloatKit

/-- Sixteen digits, which are the bits of two numbers as they are told. -/
def okC (x : ByteArray) : Bool := decide (x.size = 16) && (okHex (x.extract 0 8) && okHex (x.extract 8 16))
def oneC (x : ByteArray) : Nat × Nat := if okC x then (hexR (x.extract 0 8), hexR (x.extract 8 16)) else (0, 0)
theorem okC_long {x : ByteArray} (h : x.size ≠ 16) : okC x = false ∧ oneC x = (0, 0) := by
  have e : okC x = false := by unfold okC; rw [decide_eq_false h]; rfl
  exact ⟨e, by unfold oneC; rw [e]; rfl⟩
theorem okC_two {x : ByteArray} (h : x.size = 16) {p q : Bool} (hp : okHex (x.extract 0 8) = p) (hq : okHex (x.extract 8 16) = q) : okC x = (p && q) := by unfold okC; rw [decide_eq_true h, hp, hq]; rfl
theorem oneC_no {x : ByteArray} (h : okC x = false) : oneC x = (0, 0) := by unfold oneC; rw [h]; rfl
theorem oneC_yes {x : ByteArray} (h : okC x = true) : oneC x = (hexR (x.extract 0 8), hexR (x.extract 8 16)) := by unfold oneC; rw [h]; rfl
theorem half_size {x : ByteArray} (h : x.size = 16) : (x.extract 0 8).size = 8 ∧ (x.extract 8 16).size = 8 := by
  constructor <;> (rw [ByteArray.size_extract]; omega)
set_option maxHeartbeats 2000000 in
set_option maxRecDepth 100000 in
theorem readComplexOne_any (s : ByteArray) (hs : s.size ≤ 1048576) (w : World) :
    Calls Tryd.prog 11 #[.string s] w fun e w' => e = .returned (.tuple #[cvV (oneC s), .bool (okC s)]) ∧ Below w.heap.size w w' := by
  by_cases h8 : s.size = 16
  · have hd : ((s.size : Int) != 16) = false := by rw [bne_eq_false_iff_eq]; omega
    have hd2 : (s.size != 16) = false := by rw [bne_eq_false_iff_eq]; exact h8
    have hsl1 : ∀ W, (Instr.slice 9 (.string s) none (some (.int .i64 8)) none).run Tryd.prog W = .ok (.string (s.extract 0 8)) W := fun W => run_slice_string_h (w := W) (t := 9) (s := s) Tryd.underlying9 .i64 8 (by omega) (by omega)
    have hsl2 : ∀ W, (Instr.slice 9 (.string s) (some (.int .i64 8)) none none).run Tryd.prog W = .ok (.string (s.extract 8 16)) W := fun W => by
      have h := run_slice_string_l (P := Tryd.prog) (w := W) (t := 9) (s := s) Tryd.underlying9 .i64 8 (by omega) (by omega)
      rw [h8] at h; exact h
    obtain ⟨z1, z2⟩ := half_size h8
    have hR1 := Lib.hid (fun w' => readNumber_any (s.extract 0 8) (by omega) w')
    have hR2 := Lib.hid (fun w' => readNumber_any (s.extract 8 16) (by omega) w')
    have hTwo := Lib.hid (okC_two h8 rfl rfl)
    have hNo := Lib.hid (fun h => oneC_no (x := s) h)
    have hYes := Lib.hid (fun h => oneC_yes (x := s) h)
    generalize okC s = Q at *
    generalize oneC s = V at *
    clear z1 z2 h8 hs
    generalize s.extract 0 8 = s1 at *
    generalize s.extract 8 16 = s2 at *
    generalize okHex s1 = p at *
    generalize okHex s2 = q at *
    generalize hexR s1 = x at *
    generalize hexR s2 = y at *
    cases p
    · have hQ : Hid (Q = false) := Lib.hid (by rw [hTwo.out]; rfl)
      have hV := Lib.hid (hNo.out hQ.out)
      go_enter Tryd.func11, Tryd.ntmps11
      go_wp2_with (first | (go_at_call 16; (with_reducible refine (hR1.out _).mono ?_); rintro e w1 ⟨rfl, hb1⟩; have hB1 := Lib.hid hb1; clear hb1) | (go_at_call 16; (with_reducible refine (hR2.out _).mono ?_); rintro e w2 ⟨rfl, hb2⟩; have hB2 := Lib.hid (below_on hB1.out (Nat.le_refl _) hb2); clear hb2))
      first | exact ⟨by rw [hV.out, hQ.out]; rfl, hB2.out⟩ | (go_ret2; exact ⟨by rw [hV.out, hQ.out]; rfl, hB2.out⟩)
    · cases q
      · have hQ : Hid (Q = false) := Lib.hid (by rw [hTwo.out]; rfl)
        have hV := Lib.hid (hNo.out hQ.out)
        go_enter Tryd.func11, Tryd.ntmps11
        go_wp2_with (first | (go_at_call 16; (with_reducible refine (hR1.out _).mono ?_); rintro e w1 ⟨rfl, hb1⟩; have hB1 := Lib.hid hb1; clear hb1) | (go_at_call 16; (with_reducible refine (hR2.out _).mono ?_); rintro e w2 ⟨rfl, hb2⟩; have hB2 := Lib.hid (below_on hB1.out (Nat.le_refl _) hb2); clear hb2))
        first | exact ⟨by rw [hV.out, hQ.out]; rfl, hB2.out⟩ | (go_ret2; exact ⟨by rw [hV.out, hQ.out]; rfl, hB2.out⟩)
      · have hQ : Hid (Q = true) := Lib.hid (by rw [hTwo.out]; rfl)
        have hV := Lib.hid (hYes.out hQ.out)
        go_enter Tryd.func11, Tryd.ntmps11
        go_wp2_with (first | (go_at_call 16; (with_reducible refine (hR1.out _).mono ?_); rintro e w1 ⟨rfl, hb1⟩; have hB1 := Lib.hid hb1; clear hb1) | (go_at_call 16; (with_reducible refine (hR2.out _).mono ?_); rintro e w2 ⟨rfl, hb2⟩; have hB2 := Lib.hid (below_on hB1.out (Nat.le_refl _) hb2); clear hb2))
        first | exact ⟨by rw [hV.out, hQ.out]; rfl, hB2.out⟩ | (go_ret2; exact ⟨by rw [hV.out, hQ.out]; rfl, hB2.out⟩)
  · have hd : ((s.size : Int) != 16) = true := by rw [bne_iff_ne]; omega
    have hd2 : (s.size != 16) = true := by rw [bne_iff_ne]; exact h8
    have hF := Lib.hid (okC_long h8)
    clear h8
    go_enter Tryd.func11, Tryd.ntmps11
    go_wp2_with fail
    first | exact ⟨by rw [hF.out.1, hF.out.2]; rfl, Below.refl _ _⟩ | (go_ret2; exact ⟨by rw [hF.out.1, hF.out.2]; rfl, Below.refl _ _⟩)
def okReadC (s : ByteArray) : Bool := isNone s || (decide ((cutS 44 s).length ≤ 256) && (cutS 44 s).all okC)
def valCx (s : ByteArray) : List (Nat × Nat) := if isNone s then [] else if okReadC s then (cutS 44 s).map oneC else []
theorem readC_none {s : ByteArray} (h : isNone s = true) : okReadC s = true ∧ valCx s = [] := by
  unfold okReadC valCx; rw [h]; simp
theorem readC_big {s : ByteArray} (h : isNone s = false) (hl : 256 < (cutS 44 s).length) : okReadC s = false ∧ valCx s = [] := by
  have : okReadC s = false := by unfold okReadC; rw [h, decide_eq_false (by omega)]; rfl
  exact ⟨this, by unfold valCx; rw [h, this]; rfl⟩
theorem readC_bad {s x : ByteArray} {k : Nat} (h : isNone s = false) (hx : (cutS 44 s)[k]? = some x) (hn : okC x = false) : okReadC s = false ∧ valCx s = [] := by
  have : okReadC s = false := by
    unfold okReadC
    rw [h, show (cutS 44 s).all okC = false by rw [List.all_eq_false]; exact ⟨x, List.mem_of_getElem? hx, by rw [hn]; simp⟩]
    simp
  exact ⟨this, by unfold valCx; rw [h, this]; rfl⟩
theorem readC_all {s : ByteArray} (h : isNone s = false) (hl : (cutS 44 s).length ≤ 256) (ha : ∀ (i : Nat) (x : ByteArray), (cutS 44 s)[i]? = some x → okC x = true) : okReadC s = true ∧ valCx s = (cutS 44 s).map oneC := by
  have : okReadC s = true := by
    unfold okReadC
    rw [h, decide_eq_true hl, List.all_eq_true.2 fun x hx => by
      obtain ⟨i, hi⟩ := List.getElem?_of_mem hx
      exact ha i x hi]
    rfl
  exact ⟨this, by unfold valCx; rw [h, this]; rfl⟩
theorem valCx_len (s : ByteArray) : (valCx s).length ≤ 256 := by
  unfold valCx
  split
  · simp
  · split
    · rename_i h0 h1
      unfold okReadC at h1
      have h2 : isNone s = false := by simpa using h0
      rw [h2, Bool.false_or, Bool.and_eq_true, decide_eq_true_eq] at h1
      rw [List.length_map]; exact h1.1
    · simp
/-- What a caller sees of a read list. -/
def ReadPostC (r : List (Nat × Nat)) (ok : Bool) (w : World) (e : Ending) (w' : World) : Prop :=
  ∃ v', e = .returned (.tuple #[v', .bool ok]) ∧ Own w.heap.size w'.heap.size w' v' 29 1 r.length (r.map cvV) ∧ Below w.heap.size w w'
theorem readC_nil {r : List (Nat × Nat)} {ok q : Bool} {w w' : World} (h : ok = q ∧ r = []) (hb : Below w.heap.size w w') : ReadPostC r ok w (.returned (.tuple #[.slice none 0 0, .bool q])) w' := by
  obtain ⟨rfl, rfl⟩ := h
  exact ⟨_, rfl, own_nil, hb⟩
theorem readC_row {r : List (Nat × Nat)} {ok : Bool} {v : Value} {w w' : World} {A n : Nat} (h : ok = true) (hA : w.heap.size ≤ A) (hn : r.length = n) (ho : w'.ownsRow A 29 1 v n (r.map cvV)) (hm : n ≤ 1048576) (hb : Below w.heap.size w w') : ReadPostC r ok w (.returned (.tuple #[v, .bool true])) w' := by
  subst h hn
  exact ⟨_, rfl, (Own.new ho (by unfold maxLen; omega)).mono hA (Nat.le_refl _), hb⟩
theorem infoC8 : (Tryd.prog.info? 29).map (fun i => (i.zero, i.size, i.bytes)) = some (some (.complex .f32 0 0), 1, 8) := by kernel_rfl
theorem one_c8 (x : Nat × Nat) : ∀ u ∈ [cvV x], u.oneCell' = true := by simp [cvV, Value.oneCell']
theorem splitC_at (s : ByteArray) (w : World) (hs : s.size ≤ 1048576) (hM : MaxAt w) :
    Calls Tryd.prog 15 #[.string s, .string ⟨#[44]⟩] w fun e w' => ∃ g, e = .returned (.slice (some ⟨g, 0, none⟩) (cutS 44 s).length (cutS 44 s).length) ∧ PartsAt w' g (cutS 44 s) ∧ Below w.heap.size w w' :=
  (split_any 44 s w hs hM).mono fun e w' ⟨he, hw⟩ => by
    subst hw
    exact ⟨_, he, fun i x hx => (Whole.made w 9 ((cutS 44 s).map Value.string).toArray rfl).at_ (i := i) (u := .string x) (by simp [hx]), below_alloc (Below.refl _ _) _⟩
set_option maxHeartbeats 4000000 in
set_option maxRecDepth 100000 in
theorem readItemsC_any (s : ByteArray) (hs : s.size ≤ 1048576) (w : World) (hM : MaxAt w) :
    Calls Tryd.prog 10 #[.string s, .int .i64 256, .func (.func 11) #[] #[]] w fun e w' => ReadPostC (valCx s) (okReadC s) w e w' := by
  cases hno : isNone s
  · have hno2 : (s.toList == [110, 111, 110, 101]) = false := hno
    have hC := Lib.hid (splitC_at s w hs hM)
    have hcl : (cutS 44 s).length ≤ 1048577 := by have := cutS_le 44 s; omega
    have hPs := Lib.hid (fun (i : Nat) x (hx : (cutS 44 s)[i]? = some x) => cutS_size hx)
    have hBig := Lib.hid (fun h => readC_big hno h)
    have hBad := Lib.hid (fun (k : Nat) x (hx : (cutS 44 s)[k]? = some x) hn => readC_bad hno hx hn)
    have hAll := Lib.hid (fun hl ha => readC_all hno hl ha)
    clear hno hM
    generalize hP : cutS 44 s = P at *
    generalize okReadC s = Q at *
    generalize valCx s = R at *
    clear hP
    generalize hn : P.length = n at *
    have hLn := Lib.hid hn
    clear hn
    by_cases hbig : 256 < n
    · have hR := Lib.hid (hBig.out hbig)
      have hd : decide ((256 : Int) < (n : Int)) = true := decide_eq_true (by omega)
      clear hBig hBad hAll
      go_enter Tryd.func10, Tryd.ntmps10
      go_wp2_with fail
      refine hC.out.mono ?_
      rintro e w1 ⟨g, rfl, _, hb⟩
      have hB := Lib.hid hb
      clear hb hC
      go_wp2_with fail
      first | exact readC_nil hR.out hB.out | (go_ret2; exact readC_nil hR.out hB.out)
    obtain ⟨i0, hi, hz0, hz1, hz2⟩ := info_parts infoC8
    have hd : decide ((256 : Int) < (n : Int)) = false := decide_eq_false (by omega)
    have hMp : Hid ((List.range n).map (fun i => cvV (oneC (P.getD i ⟨#[]⟩))) = (P.map oneC).map cvV) := Lib.hid (by
      rw [← hLn.out]
      apply List.ext_getElem?
      intro i
      by_cases hi : i < P.length
      · simp [List.getElem?_eq_getElem hi, List.getElem?_range hi]
      · rw [List.getElem?_eq_none (by simp; omega), List.getElem?_eq_none (by simp; omega)])
    have hTx : Hid (∀ k x, P[k]? = some x → oneC (P.getD k ⟨#[]⟩) = oneC x) := Lib.hid fun k x hk => by rw [List.getD_eq_getElem?_getD, hk]; rfl
    have hGet : Hid (∀ k, k < n → ∃ x, P[k]? = some x) := Lib.hid fun k hk => ⟨_, List.getElem?_eq_getElem (by rw [hLn.out]; exact hk)⟩
    generalize htx : (fun i => cvV (oneC (P.getD i ⟨#[]⟩))) = F at *
    have hFk : Hid (∀ k x, P[k]? = some x → F k = cvV (oneC x)) := Lib.hid fun k x hk => by rw [← htx]; show cvV _ = _; rw [hTx.out k x hk]
    clear htx hTx hBig
    go_enter Tryd.func10, Tryd.ntmps10
    go_wp2_with fail
    refine hC.out.mono ?_
    rintro e w1 ⟨g, rfl, hpa, hb1⟩
    have hPA := Lib.hid hpa
    have hB1 := Lib.hid hb1
    clear hpa hb1 hC
    go_wp2_with (at_make; refine wpList_make_full _ rfl _ _ _ rfl w1.heap.size _ i0 (.complex .f32 0 0) 1 Tryd.underlying22 hi hz0 hz1 _ _ _ _ n rfl rfl rfl rfl ?c1 ?c2 ?c3 ?_)
    case c1 => rw [hz2]; omega
    case c2 => unfold maxLen; omega
    case c3 => exact Nat.le_refl _
    intro w2 hown2 hg2
    rw [toList_madeCells_one] at hown2
    have hO2 := Lib.hid (show w2.ownsRow w1.heap.size 29 1 (.slice (some ⟨w1.heap.size, 0, none⟩) n n) n (pz F (.complex .f32 0 0) 0 n) by rw [pz_zero]; exact hown2)
    have hB2 := Lib.hid ((Below.refl w1.heap.size w1).grown hg2 (Nat.le_refl _) (fun k hk => by cases hk))
    have hSet : Hid (∀ i, i < n → (pz F (.complex .f32 0 0) i n).set i (F i) = pz F (.complex .f32 0 0) (i + 1) n) := Lib.hid fun i hi => pz_set F _ hi
    have hAt : Hid (∀ i, i < n → (pz F (.complex .f32 0 0) i n)[i]? = some (.complex .f32 0 0)) := Lib.hid fun i hi => pz_at _ _ hi
    have hFull : Hid (pz F (.complex .f32 0 0) n n = (List.range n).map F) := Lib.hid (pz_full _ _ _)
    have hW1 := Lib.hid hB1.out.size
    generalize hFS : pz F (.complex .f32 0 0) = FS at *
    clear hown2 hg2 hFS
    go_wp2_with fail
    go_loopw [27] (fun iv wr => ∃ (k : Nat), k ≤ n ∧ iv = .int .i64 k ∧ Hid (∀ i x, i < k → P[i]? = some x → okC x = true) ∧ Hid (wr.ownsRow w1.heap.size 29 1 (.slice (some ⟨w1.heap.size, 0, none⟩) n n) n (FS k n)) ∧ Hid (Below w1.heap.size w1 wr)) (fun iv _ => n - (intOf iv).toNat)
    case atStart => exact ⟨0, Nat.zero_le _, rfl, Lib.hid (fun i x hi => absurd hi (Nat.not_lt_zero _)), hO2, hB2⟩
    case round =>
      clear hO2 hB2
      obtain ⟨k, hk, rfl, hAl, hO, hBw⟩ := hrel
      have hBB := Lib.hid (hB1.out.trans (hBw.out.mono hW1.out))
      by_cases hlt : k < n
      · obtain ⟨x, hx⟩ := hGet.out k hlt
        have hcx := (hPA.out.more hBw.out) k x hx
        have hxx := Lib.hid hx
        have hFx := Lib.hid (hFk.out k x hx)
        have hxs := hPs.out k x hx
        have hRd := Lib.hid (readComplexOne_any x (by omega) wr)
        clear hx
        cases hv : okC x
        · have hR := Lib.hid (hBad.out k x hxx.out hv)
          rw [hv] at hRd
          clear hv
          generalize oneC x = y at *
          go_wp2_with (go_at_call 11; (with_reducible refine hRd.out.mono ?_); rintro e w3 ⟨rfl, hb3⟩; have hB3 := Lib.hid (below_on hBB.out (Nat.le_refl _) (hb3.mono (Nat.le_refl _))); clear hb3)
          first | exact readC_nil hR.out hB3.out | (go_ret2; exact readC_nil hR.out hB3.out)
        · have hAll2 : Hid (∀ i y, i < k + 1 → P[i]? = some y → okC y = true) := Lib.hid fun i y hi hy => by
            by_cases h1 : i < k
            · exact hAl.out i y h1 hy
            · obtain rfl : i = k := by omega
              rw [hxx.out] at hy
              rw [← Option.some.inj hy]; exact hv
          rw [hv] at hRd
          have hSk := Lib.hid (hSet.out k hlt)
          have hAk := Lib.hid (hAt.out k hlt)
          clear hv
          generalize oneC x = y at *
          obtain ⟨y1, y2⟩ := y
          unfold cvV at hRd hFx
          dsimp only at hRd hFx
          go_wp2_with (go_at_call 11; (with_reducible refine hRd.out.mono ?_); rintro e w3 ⟨rfl, hb3⟩; have hB3 := Lib.hid (below_on hBw.out (Nat.le_refl _) hb3); have hO3 := Lib.hid (ownsRow_kept hO.out hb3); have q0 : w3.cell? ⟨w1.heap.size, k, none⟩ = some (.complex .f32 0 0) := (hO3.out.cellAt k (by omega)).trans hAk.out; have f0 := hO3.out.frozenAt k; clear hb3)
          have hO4 := Lib.hid (show (w3.setCell ⟨w1.heap.size, k, none⟩ (.complex .f32 y1 y2)).ownsRow w1.heap.size 29 1 (.slice (some ⟨w1.heap.size, 0, none⟩) n n) n (FS (k + 1) n) by rw [← hSk.out, hFx.out]; exact (hO3.out.stored k (.complex .f32 y1 y2)).1)
          have hB4 := Lib.hid (hB3.out.setCell (p := ⟨w1.heap.size, k, none⟩) (Nat.le_refl _) (.complex .f32 y1 y2))
          go_roundw
          case rel => exact ⟨k + 1, by omega, by go_num, hAll2, hO4, hB4⟩
          case measure => simp [intOf]; omega
      · obtain rfl : k = n := by omega
        obtain ⟨hq, hr⟩ := hAll.out (by omega) (fun i x hi => hAl.out i x (by
          by_cases h3 : i < k
          · exact h3
          · rw [List.getElem?_eq_none (by rw [hLn.out]; omega)] at hi; cases hi) hi)
        have hq2 := Lib.hid hq
        have hr2 := Lib.hid hr
        have hO5 := Lib.hid (show wr.ownsRow w1.heap.size 29 1 (.slice (some ⟨w1.heap.size, 0, none⟩) k k) k (R.map cvV) by rw [hr, ← hMp.out, ← hFull.out]; exact hO.out)
        have hln : Hid (R.length = k) := Lib.hid (by rw [hr, List.length_map, hLn.out])
        clear hq hr
        go_wp2_with fail
        first | exact readC_row hq2.out hW1.out hln.out hO5.out (by omega) hBB.out | (go_ret2; exact readC_row hq2.out hW1.out hln.out hO5.out (by omega) hBB.out)
  · have hno2 : (s.toList == [110, 111, 110, 101]) = true := hno
    have hR := Lib.hid (readC_none hno)
    clear hno hM
    go_enter Tryd.func10, Tryd.ntmps10
    go_wp2_with fail
    first | exact readC_nil hR.out (Below.refl _ _) | (go_ret2; exact readC_nil hR.out (Below.refl _ _))
end Go.Proofs.YtjpmliigepegaaaDoor
