/- Contracts: the list of numbers of float32 that a text spells, read by the program and by the model's loop. Conditions: internal/bytealg.MaxLen holds some int (the program's side). -/
import Derived.Test.YtfidppepchobeaaDoorHex
import Derived.Test.YtfidppepchobeaaDoorCut
import Derived.Test.YtfidppepchobeaaDoorPz
namespace Go.Proofs.YtfidppepchobeaaDoor
open Go.RowKit Go.Lst Go FloatKit

theorem cutL_len (c : UInt8) : ∀ (l : List UInt8), ∀ x ∈ cutL c l, x.length ≤ l.length
  | [], x, hx => by
    simp only [cutL, List.mem_singleton] at hx
    subst hx; exact Nat.le_refl _
  | b :: r, x, hx => by
    unfold cutL at hx
    split at hx
    · rcases List.mem_cons.1 hx with rfl | h
      · exact Nat.zero_le _
      · have := cutL_len c r x h
        rw [List.length_cons]; omega
    · have hh := cutL_head c r
      rcases List.mem_cons.1 hx with rfl | h
      · have := cutL_len c r ((cutL c r).headD []) (by rw [← hh]; simp)
        rw [List.length_cons, List.length_cons]; omega
      · have := cutL_len c r x (by rw [← hh]; exact List.mem_cons_of_mem _ h)
        rw [List.length_cons]; omega
theorem cutS_size {c : UInt8} {s x : ByteArray} {i : Nat} (h : (cutS c s)[i]? = some x) : x.size ≤ s.size := by
  have hm := List.mem_of_getElem? h
  unfold cutS at hm
  obtain ⟨l, hl, rfl⟩ := List.mem_map.1 hm
  have := cutL_len c _ l hl
  rw [Array.length_toList] at this
  show l.toArray.size ≤ _
  rw [List.size_toArray]; exact this
/-- Whether a text is that of a list, and the list. -/
def isNone (s : ByteArray) : Bool := s.toList == [110, 111, 110, 101]
def okReadF (s : ByteArray) : Bool := isNone s || (decide ((cutS 44 s).length ≤ 256) && (cutS 44 s).all okHex)
def valF (s : ByteArray) : List Nat := if isNone s then [] else if okReadF s then (cutS 44 s).map hexR else []
theorem read_none {s : ByteArray} (h : isNone s = true) : okReadF s = true ∧ valF s = [] := by
  unfold okReadF valF; rw [h]; simp
theorem read_big {s : ByteArray} (h : isNone s = false) (hl : 256 < (cutS 44 s).length) : okReadF s = false ∧ valF s = [] := by
  have : okReadF s = false := by unfold okReadF; rw [h, decide_eq_false (by omega)]; rfl
  exact ⟨this, by unfold valF; rw [h, this]; rfl⟩
theorem read_bad {s x : ByteArray} {k : Nat} (h : isNone s = false) (hx : (cutS 44 s)[k]? = some x) (hn : okHex x = false) : okReadF s = false ∧ valF s = [] := by
  have : okReadF s = false := by
    unfold okReadF
    rw [h, show (cutS 44 s).all okHex = false by rw [List.all_eq_false]; exact ⟨x, List.mem_of_getElem? hx, by rw [hn]; simp⟩]
    simp
  exact ⟨this, by unfold valF; rw [h, this]; rfl⟩
theorem read_all {s : ByteArray} (h : isNone s = false) (hl : (cutS 44 s).length ≤ 256) (ha : ∀ (i : Nat) (x : ByteArray), (cutS 44 s)[i]? = some x → okHex x = true) : okReadF s = true ∧ valF s = (cutS 44 s).map hexR := by
  have : okReadF s = true := by
    unfold okReadF
    rw [h, decide_eq_true hl, List.all_eq_true.2 fun x hx => by
      obtain ⟨i, hi⟩ := List.getElem?_of_mem hx
      exact ha i x hi]
    rfl
  exact ⟨this, by unfold valF; rw [h, this]; rfl⟩
theorem valF_len (s : ByteArray) : (valF s).length ≤ 256 := by
  unfold valF
  split
  · simp
  · split
    · rename_i h0 h1
      unfold okReadF at h1
      have h2 : isNone s = false := by simpa using h0
      rw [h2, Bool.false_or, Bool.and_eq_true, decide_eq_true_eq] at h1
      rw [List.length_map]; exact h1.1
    · simp
/-- What a caller sees of a read list. -/
def ReadPost (r : List Nat) (ok : Bool) (w : World) (e : Ending) (w' : World) : Prop :=
  ∃ v', e = .returned (.tuple #[v', .bool ok]) ∧ Own w.heap.size w'.heap.size w' v' 33 1 r.length (r.map (Value.float .f32)) ∧ Below w.heap.size w w'
theorem read_nil {r : List Nat} {ok q : Bool} {w w' : World} (h : ok = q ∧ r = []) (hb : Below w.heap.size w w') : ReadPost r ok w (.returned (.tuple #[.slice none 0 0, .bool q])) w' := by
  obtain ⟨rfl, rfl⟩ := h
  exact ⟨_, rfl, own_nil, hb⟩
theorem read_row {r : List Nat} {ok : Bool} {v : Value} {w w' : World} {A n : Nat} (h : ok = true) (hA : w.heap.size ≤ A) (hn : r.length = n) (ho : w'.ownsRow A 33 1 v n (r.map (Value.float .f32))) (hm : n ≤ 1048576) (hb : Below w.heap.size w w') : ReadPost r ok w (.returned (.tuple #[v, .bool true])) w' := by
  subst h hn
  exact ⟨_, rfl, (Own.new ho (by unfold maxLen; omega)).mono hA (Nat.le_refl _), hb⟩
theorem infoF4 : (Tryd.prog.info? 33).map (fun i => (i.zero, i.size, i.bytes)) = some (some (.float .f32 0), 1, 4) := by kernel_rfl
theorem one_f4 (x : Nat) : ∀ u ∈ [Value.float .f32 x], u.oneCell' = true := by simp [Value.oneCell']
/-- The parts of a cut text, where they lie. -/
def PartsAt (w : World) (g : Nat) (xs : List ByteArray) : Prop := ∀ i x, xs[i]? = some x → w.cell? ⟨g, i, none⟩ = some (.string x)
theorem PartsAt.more {w w' : World} {g : Nat} {xs : List ByteArray} (h : PartsAt w g xs) (hb : Below w.heap.size w w') : PartsAt w' g xs := fun i x hx => by
  have := h i x hx
  rw [hb.cell (p := ⟨g, i, none⟩) (World.block_lt_of_cell? w _ this)]; exact this
theorem split_at (s : ByteArray) (w : World) (hs : s.size ≤ 1048576) (hM : MaxAt w) :
    Calls Tryd.prog 29 #[.string s, .string ⟨#[44]⟩] w fun e w' => ∃ g, e = .returned (.slice (some ⟨g, 0, none⟩) (cutS 44 s).length (cutS 44 s).length) ∧ PartsAt w' g (cutS 44 s) ∧ Below w.heap.size w w' :=
  (split_any 44 s w hs hM).mono fun e w' ⟨he, hw⟩ => by
    subst hw
    exact ⟨_, he, fun i x hx => (Whole.made w 9 ((cutS 44 s).map Value.string).toArray rfl).at_ (i := i) (u := .string x) (by simp [hx]), below_alloc (Below.refl _ _) _⟩
set_option maxHeartbeats 4000000 in
set_option maxRecDepth 100000 in
theorem readItems_any (s : ByteArray) (hs : s.size ≤ 1048576) (w : World) (hM : MaxAt w) :
    Calls Tryd.prog 19 #[.string s, .int .i64 256, .func (.func 20) #[] #[]] w fun e w' => ReadPost (valF s) (okReadF s) w e w' := by
  cases hno : isNone s
  · have hno2 : (s.toList == [110, 111, 110, 101]) = false := hno
    have hC := Lib.hid (split_at s w hs hM)
    have hcl : (cutS 44 s).length ≤ 1048577 := by have := cutS_le 44 s; omega
    have hPs := Lib.hid (fun (i : Nat) x (hx : (cutS 44 s)[i]? = some x) => cutS_size hx)
    have hBig := Lib.hid (fun h => read_big hno h)
    have hBad := Lib.hid (fun (k : Nat) x (hx : (cutS 44 s)[k]? = some x) hn => read_bad hno hx hn)
    have hAll := Lib.hid (fun hl ha => read_all hno hl ha)
    clear hno hM
    generalize hP : cutS 44 s = P at *
    generalize okReadF s = Q at *
    generalize valF s = R at *
    clear hP
    generalize hn : P.length = n at *
    have hLn := Lib.hid hn
    clear hn
    by_cases hbig : 256 < n
    · have hR := Lib.hid (hBig.out hbig)
      have hd : decide ((256 : Int) < (n : Int)) = true := decide_eq_true (by omega)
      clear hBig hBad hAll
      go_enter Tryd.func19, Tryd.ntmps19
      go_wp2_with fail
      refine hC.out.mono ?_
      rintro e w1 ⟨g, rfl, _, hb⟩
      have hB := Lib.hid hb
      clear hb hC
      go_wp2_with fail
      first | exact read_nil hR.out hB.out | (go_ret2; exact read_nil hR.out hB.out)
    obtain ⟨i0, hi, hz0, hz1, hz2⟩ := info_parts infoF4
    have hd : decide ((256 : Int) < (n : Int)) = false := decide_eq_false (by omega)
    have hMp : Hid ((List.range n).map (fun i => Value.float .f32 (hexR (P.getD i ⟨#[]⟩))) = (P.map hexR).map (Value.float .f32)) := Lib.hid (by
      rw [← hLn.out]
      apply List.ext_getElem?
      intro i
      by_cases hi : i < P.length
      · simp [List.getElem?_eq_getElem hi, List.getElem?_range hi]
      · rw [List.getElem?_eq_none (by simp; omega), List.getElem?_eq_none (by simp; omega)])
    have hTx : Hid (∀ k x, P[k]? = some x → hexR (P.getD k ⟨#[]⟩) = hexR x) := Lib.hid fun k x hk => by rw [List.getD_eq_getElem?_getD, hk]; rfl
    have hGet : Hid (∀ k, k < n → ∃ x, P[k]? = some x) := Lib.hid fun k hk => ⟨_, List.getElem?_eq_getElem (by rw [hLn.out]; exact hk)⟩
    generalize htx : (fun i => Value.float .f32 (hexR (P.getD i ⟨#[]⟩))) = F at *
    have hFk : Hid (∀ k x, P[k]? = some x → F k = .float .f32 (hexR x)) := Lib.hid fun k x hk => by rw [← htx]; show Value.float .f32 _ = _; rw [hTx.out k x hk]
    clear htx hTx hBig
    go_enter Tryd.func19, Tryd.ntmps19
    go_wp2_with fail
    refine hC.out.mono ?_
    rintro e w1 ⟨g, rfl, hpa, hb1⟩
    have hPA := Lib.hid hpa
    have hB1 := Lib.hid hb1
    clear hpa hb1 hC
    go_wp2_with (at_make; refine wpList_make_full _ rfl _ _ _ rfl w1.heap.size _ i0 (.float .f32 0) 1 Tryd.underlying22 hi hz0 hz1 _ _ _ _ n rfl rfl rfl rfl ?c1 ?c2 ?c3 ?_)
    case c1 => rw [hz2]; omega
    case c2 => unfold maxLen; omega
    case c3 => exact Nat.le_refl _
    intro w2 hown2 hg2
    rw [toList_madeCells_one] at hown2
    have hO2 := Lib.hid (show w2.ownsRow w1.heap.size 33 1 (.slice (some ⟨w1.heap.size, 0, none⟩) n n) n (pz F (.float .f32 0) 0 n) by rw [pz_zero]; exact hown2)
    have hB2 := Lib.hid ((Below.refl w1.heap.size w1).grown hg2 (Nat.le_refl _) (fun k hk => by cases hk))
    have hSet : Hid (∀ i, i < n → (pz F (.float .f32 0) i n).set i (F i) = pz F (.float .f32 0) (i + 1) n) := Lib.hid fun i hi => pz_set F _ hi
    have hAt : Hid (∀ i, i < n → (pz F (.float .f32 0) i n)[i]? = some (.float .f32 0)) := Lib.hid fun i hi => pz_at _ _ hi
    have hFull : Hid (pz F (.float .f32 0) n n = (List.range n).map F) := Lib.hid (pz_full _ _ _)
    have hW1 := Lib.hid hB1.out.size
    generalize hFS : pz F (.float .f32 0) = FS at *
    clear hown2 hg2 hFS
    go_wp2_with fail
    go_loopw [27] (fun iv wr => ∃ (k : Nat), k ≤ n ∧ iv = .int .i64 k ∧ Hid (∀ i x, i < k → P[i]? = some x → okHex x = true) ∧ Hid (wr.ownsRow w1.heap.size 33 1 (.slice (some ⟨w1.heap.size, 0, none⟩) n n) n (FS k n)) ∧ Hid (Below w1.heap.size w1 wr)) (fun iv _ => n - (intOf iv).toNat)
    case atStart => exact ⟨0, Nat.zero_le _, rfl, Lib.hid (fun i x hi => absurd hi (Nat.not_lt_zero _)), hO2, hB2⟩
    case round =>
      clear hO2 hB2
      obtain ⟨k, hk, rfl, hAl, hO, hBw⟩ := hrel
      have hBB := Lib.hid (hB1.out.trans (hBw.out.mono hW1.out))
      by_cases hlt : k < n
      · obtain ⟨x, hx⟩ := hGet.out k hlt
        have hcx := (hPA.out.more hBw.out) k x hx
        have hxx := Lib.hid hx
        have hFx := Lib.hid (hFk.out k x hx)
        have hxs := hPs.out k x hx
        have hRd := Lib.hid (readNumber_any x (by omega) wr)
        clear hx
        cases hv : okHex x
        · have hR := Lib.hid (hBad.out k x hxx.out hv)
          rw [hv] at hRd
          clear hv
          generalize hexR x = y at *
          go_wp2_with (go_at_call 20; (with_reducible refine hRd.out.mono ?_); rintro e w3 ⟨rfl, hb3⟩; have hB3 := Lib.hid (below_on hBB.out (Nat.le_refl _) (hb3.mono (Nat.le_refl _))); clear hb3)
          first | exact read_nil hR.out hB3.out | (go_ret2; exact read_nil hR.out hB3.out)
        · have hAll2 : Hid (∀ i y, i < k + 1 → P[i]? = some y → okHex y = true) := Lib.hid fun i y hi hy => by
            by_cases h1 : i < k
            · exact hAl.out i y h1 hy
            · obtain rfl : i = k := by omega
              rw [hxx.out] at hy
              rw [← Option.some.inj hy]; exact hv
          rw [hv] at hRd
          have hSk := Lib.hid (hSet.out k hlt)
          have hAk := Lib.hid (hAt.out k hlt)
          clear hv
          generalize hexR x = y at *
          go_wp2_with (go_at_call 20; (with_reducible refine hRd.out.mono ?_); rintro e w3 ⟨rfl, hb3⟩; have hB3 := Lib.hid (below_on hBw.out (Nat.le_refl _) hb3); have hO3 := Lib.hid (ownsRow_kept hO.out hb3); have q0 : w3.cell? ⟨w1.heap.size, k, none⟩ = some (.float .f32 0) := (hO3.out.cellAt k (by omega)).trans hAk.out; have f0 := hO3.out.frozenAt k; clear hb3)
          have hO4 := Lib.hid (show (w3.setCell ⟨w1.heap.size, k, none⟩ (.float .f32 y)).ownsRow w1.heap.size 33 1 (.slice (some ⟨w1.heap.size, 0, none⟩) n n) n (FS (k + 1) n) by rw [← hSk.out, hFx.out]; exact (hO3.out.stored k (.float .f32 y)).1)
          have hB4 := Lib.hid (hB3.out.setCell (p := ⟨w1.heap.size, k, none⟩) (Nat.le_refl _) (.float .f32 y))
          go_roundw
          case rel => exact ⟨k + 1, by omega, by go_num, hAll2, hO4, hB4⟩
          case measure => simp [intOf]; omega
      · obtain rfl : k = n := by omega
        obtain ⟨hq, hr⟩ := hAll.out (by omega) (fun i x hi => hAl.out i x (by
          by_cases h3 : i < k
          · exact h3
          · rw [List.getElem?_eq_none (by rw [hLn.out]; omega)] at hi; cases hi) hi)
        have hq2 := Lib.hid hq
        have hr2 := Lib.hid hr
        have hO5 := Lib.hid (show wr.ownsRow w1.heap.size 33 1 (.slice (some ⟨w1.heap.size, 0, none⟩) k k) k (R.map (Value.float .f32)) by rw [hr, ← hMp.out, ← hFull.out]; exact hO.out)
        have hln : Hid (R.length = k) := Lib.hid (by rw [hr, List.length_map, hLn.out])
        clear hq hr
        go_wp2_with fail
        first | exact read_row hq2.out hW1.out hln.out hO5.out (by omega) hBB.out | (go_ret2; exact read_row hq2.out hW1.out hln.out hO5.out (by omega) hBB.out)
  · have hno2 : (s.toList == [110, 111, 110, 101]) = true := hno
    have hR := Lib.hid (read_none hno)
    clear hno hM
    go_enter Tryd.func19, Tryd.ntmps19
    go_wp2_with fail
    first | exact read_nil hR.out (Below.refl _ _) | (go_ret2; exact read_nil hR.out (Below.refl _ _))
end Go.Proofs.YtfidppepchobeaaDoor
