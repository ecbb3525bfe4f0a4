/- Contracts: a text cut at each mark, the model's loop and the library's Split. Conditions: internal/bytealg.MaxLen holds some int (the library's side). -/
import Derived.Test.YtjpmliigepegaaaDoorCutPure
import Derived.Test.YtjpmliigepegaaaDoorStrs
import Derived.Test.YtjpmliigepegaaaDoorAreJobs
import Derived.Laws.Append
import Derived.Laws.AppendOwn
import Derived.Laws.Strings2
import Derived.Test.YtjpmliigepegaaaDoorLaySplit
import Derived.Shelf.Strings.SplitShaped
namespace Go.Proofs.YtjpmliigepegaaaDoor
open Go.RowKit Go.Lst Go

theorem infoS7 : (Tryd.prog.info? 9).map (fun i => (i.zero, i.size, i.bytes)) = some (some (.string ⟨#[]⟩), 1, 16) := by kernel_rfl
theorem one_string7 (x : ByteArray) : ∀ u ∈ [Value.string x], u.oneCell' = true := by simp [Value.oneCell']
theorem news_string7 (w : World) (t : TypeId) (u : Value) : ∀ (j : Nat) (x : Value), [u][j]? = some x → (w.alloc (.cells #[u] t)).cell? ((⟨w.heap.size, 0, none⟩ : Addr).add j) = some x := fun j x hj => by
  match j, hj with
  | 0, hj =>
    obtain rfl : u = x := by simpa using hj
    exact (Whole.made w t #[u] rfl).at_ rfl
  | j + 1, hj => simp at hj
theorem extract_data (s : ByteArray) (a b : Nat) : (s.extract a b).data.toList = (s.data.toList.drop a).take (b - a) := by
  rw [ByteArray.data_extract]; simp
theorem cutS_of {c : UInt8} {s : ByteArray} {parts : List ByteArray} (h : parts.map (·.data.toList) = cutL c s.data.toList) : parts = cutS c s := by
  unfold cutS
  rw [← h, List.map_map]
  have e : ((fun l : List UInt8 => (⟨l.toArray⟩ : ByteArray)) ∘ fun x : ByteArray => x.data.toList) = id := by funext x; simp
  rw [e, List.map_id]
set_option maxHeartbeats 4000000 in
set_option maxRecDepth 100000 in
theorem l01Cut_any (c : UInt8) (s : ByteArray) (w : World) (hs : s.size ≤ 1048576) :
    Calls Tryd.prog 13 #[.string s, .int .u8 (c.toNat : Int)] w fun e w' => ∃ v', e = .returned v' ∧ Own w.heap.size w'.heap.size w' v' 9 1 (cutS c s).length ((cutS c s).map Value.string) ∧ Below w.heap.size w w' := by
  obtain ⟨i0, hi, hz0, hz1, hz2⟩ := info_parts infoS7
  have hEnd : Hid (∀ (w' : World) v (parts : List ByteArray), parts.map (·.data.toList) = cutL c s.data.toList → parts.length ≤ 1048577 → w'.ownsRow w.heap.size 9 1 v parts.length (parts.map Value.string) → Below w.heap.size w w' → ∃ v', Ending.returned v = .returned v' ∧ Own w.heap.size w'.heap.size w' v' 9 1 (cutS c s).length ((cutS c s).map Value.string) ∧ Below w.heap.size w w') := Lib.hid fun w' v parts h1 h2 h3 h4 => by
    rw [← cutS_of h1]
    exact ⟨v, rfl, Own.new h3 (by unfold maxLen; omega), h4⟩
  obtain ⟨l, hl⟩ : ∃ l, l = s.data.toList := ⟨_, rfl⟩
  have hLn : l.length = s.size := by rw [hl]; exact Array.length_toList
  have hAt : Hid (∀ i (h : i < s.size), l[i]? = some (s[i]'h)) := Lib.hid fun i h => by rw [hl, List.getElem?_eq_getElem (show i < s.data.toList.length by rw [Array.length_toList]; exact h)]; rfl
  have hEx : Hid (∀ a b, (s.extract a b).data.toList = (l.drop a).take (b - a)) := Lib.hid fun a b => by rw [hl]; exact extract_data s a b
  have hI0 := Lib.hid (CutInv.start c l)
  rw [← hl] at hEnd
  have hLn2 := Lib.hid hLn
  clear hl hLn
  have hO0 := Lib.hid (show (w.alloc (Obj.cells #[] 9)).ownsRow w.heap.size 9 1 (.slice (some ⟨w.heap.size, 0, none⟩) 0 0) 0 (([] : List ByteArray).map Value.string) from World.ownsRow_lit w #[] 0 (Nat.le_refl _) (Nat.zero_le _) rfl)
  have hB0 := Lib.hid (below_alloc (Below.refl w.heap.size w) (.cells #[] 9))
  go_enter Tryd.func13, Tryd.ntmps13
  go_wp2_with fail
  generalize w.alloc (Obj.cells #[] 9) = w1 at *
  go_loopw [5, 6, 7] (fun ov fv iv wr => ∃ (parts : List ByteArray) (fr i : Nat), iv = .int .i64 (i : Int) ∧ fv = .int .i64 (fr : Int) ∧ i ≤ s.size + 1 ∧ fr ≤ i ∧ parts.length ≤ i ∧ Hid (i ≤ s.size → CutInv c l (parts.map (·.data.toList)) fr i) ∧ Hid (i = s.size + 1 → parts.map (·.data.toList) = cutL c l) ∧ Hid (wr.ownsRow w.heap.size 9 1 ov parts.length (parts.map Value.string)) ∧ Hid (Below w.heap.size w wr)) (fun _ _ iv _ => s.size + 1 - (intOf iv).toNat)
  case atStart => exact ⟨[], 0, 0, rfl, rfl, by omega, Nat.le_refl _, Nat.zero_le _, Lib.hid (fun _ => hI0.out), Lib.hid (fun h => by omega), hO0, hB0⟩
  case round =>
    clear hO0 hB0
    obtain ⟨parts, fr, i, rfl, rfl, hi1, hfr, hpl, hI, hF, hO, hB⟩ := hrel
    by_cases hlt : i ≤ s.size
    · have hsl : ∀ W, (Instr.slice 9 (.string s) (some (.int .i64 (fr : Int))) (some (.int .i64 (i : Int))) none).run Tryd.prog W = .ok (.string (s.extract fr i)) W := fun W => by
        have h1 := run_slice_string (P := Tryd.prog) W 9 s .i64 .i64 (fr : Int) (i : Int) Tryd.underlying9 (by omega) (by omega) (by omega)
        rw [show ((fr : Int)).toNat = fr by omega, show ((i : Int)).toNat = i by omega] at h1
        exact h1
      have hxd := Lib.hid (hEx.out fr i)
      have hInv := Lib.hid (hI.out hlt)
      have hgs := Lib.hid hB.out.size
      clear hI hF
      by_cases hend : i = s.size
      · have hN : Hid ((parts ++ [s.extract fr i]).map (·.data.toList) = cutL c l) := Lib.hid (by
          rw [List.map_append, List.map_cons, List.map_nil, hxd.out]
          have hv := hInv.out
          rw [hend, ← hLn2.out] at hv ⊢
          exact hv.fin)
        have hb : ((i : Int) == (s.size : Int)) = true := by simp [hend]
        have hs2 := Lib.hid hend
        clear hend
        generalize s.extract fr i = t0 at *
        generalize hpn : parts.length = np at *
        have hpn2 := Lib.hid hpn
        clear hpn
        go_wp2_with (at_builtin; refine wpList_append_own _ rfl _ _ _ rfl w.heap.size 9 i0 (.string ⟨#[]⟩) 1 16 Tryd.underlying34 hi hz0 hz1 hz2 rfl (by decide) _ np _ rfl (hO.out.alloc _) ⟨wr.heap.size, 0, none⟩ 1 1 [.string t0] rfl rfl (news_string7 wr _ _) (one_string7 _) (by unfold maxLen; omega) (by omega) (by rw [World.size_alloc]; have := hgs.out; omega) ?_; intro v8 w8 hown8 hgrow8 hnil8; have hB8 := Lib.hid ((hB.out.alloc hgs.out (.cells #[.string t0] 9)).grown hgrow8 (by rw [World.size_alloc]; have := hgs.out; omega) (fun g hg => (hO.out.lt g hg).1)); have hO8 := Lib.hid (show w8.ownsRow w.heap.size 9 1 v8 (np + 1) ((parts ++ [t0]).map Value.string) by rw [List.map_append]; exact hown8); clear hown8 hgrow8 hnil8)
        go_roundw
        case rel => exact ⟨parts ++ [t0], i + 1, i + 1, by go_num, by go_num, by omega, Nat.le_refl _, by rw [List.length_append, hpn2.out]; simp; omega, Lib.hid (fun h => by have := hs2.out; omega), Lib.hid (fun _ => hN.out), by rw [List.length_append, hpn2.out]; exact hO8, hB8⟩
        case measure => simp [intOf]; omega
      · have hlt2 : i < s.size := by omega
        have hgi := Lib.hid (hAt.out i hlt2)
        have hb : ((i : Int) == (s.size : Int)) = false := by simp; omega
        by_cases hm : (s[i]'hlt2) = c
        · have hN := Lib.hid (show CutInv c l ((parts ++ [s.extract fr i]).map (·.data.toList)) (i + 1) (i + 1) by
            rw [List.map_append, List.map_cons, List.map_nil, hxd.out]
            exact hInv.out.mark (by rw [hgi.out, hm]))
          have hbe : (((s[i]'hlt2).toNat : Int) == (c.toNat : Int)) = true := by rw [hm]; simp
          clear hm
          generalize s.extract fr i = t0 at *
          generalize hpn : parts.length = np at *
          have hpn2 := Lib.hid hpn
          clear hpn
          go_wp2_with (at_builtin; refine wpList_append_own _ rfl _ _ _ rfl w.heap.size 9 i0 (.string ⟨#[]⟩) 1 16 Tryd.underlying34 hi hz0 hz1 hz2 rfl (by decide) _ np _ rfl (hO.out.alloc _) ⟨wr.heap.size, 0, none⟩ 1 1 [.string t0] rfl rfl (news_string7 wr _ _) (one_string7 _) (by unfold maxLen; omega) (by omega) (by rw [World.size_alloc]; have := hgs.out; omega) ?_; intro v8 w8 hown8 hgrow8 hnil8; have hB8 := Lib.hid ((hB.out.alloc hgs.out (.cells #[.string t0] 9)).grown hgrow8 (by rw [World.size_alloc]; have := hgs.out; omega) (fun g hg => (hO.out.lt g hg).1)); have hO8 := Lib.hid (show w8.ownsRow w.heap.size 9 1 v8 (np + 1) ((parts ++ [t0]).map Value.string) by rw [List.map_append]; exact hown8); clear hown8 hgrow8 hnil8)
          go_roundw
          case rel => exact ⟨parts ++ [t0], i + 1, i + 1, by go_num, by go_num, by omega, Nat.le_refl _, by rw [List.length_append, hpn2.out]; simp; omega, Lib.hid (fun h => hN.out), Lib.hid (fun h => by omega), by rw [List.length_append, hpn2.out]; exact hO8, hB8⟩
          case measure => simp [intOf]; omega
        · have hN := Lib.hid (hInv.out.pass hgi.out hm)
          have hbe : (((s[i]'hlt2).toNat : Int) == (c.toNat : Int)) = false := by
            rw [beq_eq_false_iff_ne]
            intro h
            exact hm (UInt8.toNat_inj.1 (by omega))
          clear hm hsl
          go_wp2_with fail
          go_roundw
          case rel => exact ⟨parts, fr, i + 1, by go_num, rfl, by omega, by omega, by omega, Lib.hid (fun h => hN.out), Lib.hid (fun h => by omega), hO, hB⟩
          case measure => simp [intOf]; omega
    · have hQ := Lib.hid (hEnd.out wr _ parts (hF.out (by omega)) (by omega) hO.out hB.out)
      clear hI hF
      go_wp2_with fail
      first | exact hQ.out | (go_ret; exact hQ.out)
theorem row_openS7 {A n : Nat} {w : World} {v : Value} {cs : List Value} (h : w.ownsRow A 9 1 v n cs) (hn : 0 < n) : ∃ g c, v = .slice (some ⟨g, 0, none⟩) n c ∧ g < w.heap.size ∧ n ≤ c ∧ c ≤ maxLen := by
  have hlt := h.lt
  obtain ⟨hl, h2⟩ := h
  rcases h2 with ⟨rfl, rfl⟩ | ⟨g, cap, cur, rfl, _, _, h3, h4, _⟩
  · omega
  · exact ⟨g, cap, rfl, (hlt g rfl).2, h3, h4⟩
/-- internal/bytealg.MaxLen holds some int. -/
def MaxAt (w : World) : Prop := ∃ m, w.cell? ⟨(Tryd.laysM146_ren.g 1), 0, none⟩ = some (.int .i64 m)
theorem MaxAt.kept {w w' : World} (h : MaxAt w) (hb : Below w.heap.size w w') : MaxAt w' := by
  obtain ⟨m, hm⟩ := h
  exact ⟨m, by rw [hb.cell (p := ⟨(Tryd.laysM146_ren.g 1), 0, none⟩) (World.block_lt_of_cell? w _ hm)]; exact hm⟩
theorem maxAt {w : World} (h : w.ShapedOpen Tryd.prog) : MaxAt w := Tryd.laysM146.s1_3 w h
theorem split_any (c : UInt8) (s : ByteArray) (w : World) (hs : s.size ≤ 1048576) (hM : MaxAt w) :
    Calls Tryd.prog 15 #[.string s, .string ⟨#[c]⟩] w fun e w' => e = .returned (.slice (some ⟨w.heap.size, 0, none⟩) (cutS c s).length (cutS c s).length) ∧ w' = w.alloc (.cells ((cutS c s).map Value.string).toArray 9) := by
  obtain ⟨m, hm⟩ := hM
  have h := Any.strings_Split { Tryd.laysM146 with } Tryd.laysM146.i9 s ⟨#[c]⟩ m w (by omega) hm (Nat.le_refl 1)
  rw [split_cut] at h
  rw [cutS_len]
  exact h
end Go.Proofs.YtjpmliigepegaaaDoor
