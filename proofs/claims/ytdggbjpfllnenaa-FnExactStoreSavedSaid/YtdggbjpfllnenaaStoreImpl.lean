/- Contract: the program's StoreSaved. -/
import Derived.Test.YtdggbjpfllnenaaStoreBuf
namespace Go.Proofs.Ytdggbjpfllnenaa
open Go.RowKit Go.Lst Go.Lib

def storeR (d : SavedD) : Value := if okSaved d = true then .tuple #[.string (storeB d), .bool true] else .tuple #[.string ⟨#[]⟩, .bool false]
set_option maxHeartbeats 8000000 in
set_option maxRecDepth 100000 in
theorem implStoreSaved_any (B : Nat) (V : Value) (d : SavedD) (w : World) (h1 : LstSaved B w V d) (hp : d.name.size ≤ maxLen) (hB : B ≤ w.heap.size) :
    Calls Try.prog 7 #[V] w fun e w' => e = .returned (storeR d) ∧ Below w.heap.size w w' := by
  obtain ⟨vt, vs, rfl, ht, hs⟩ := h1
  have hV := Lib.hid (fun w' (hb : Below w.heap.size w w') => validSaved_any B (savedV d.name vt vs) d w' (LstSaved.below ⟨vt, vs, rfl, ht, hs⟩ hb hB) hp (Nat.le_trans hB hb.size))
  obtain ⟨at1, k1, rfl, l1, _, _, hct⟩ := ht.at_
  obtain ⟨as1, k2, rfl, l2, _, _, hcs⟩ := hs.at_
  have hCt := Lib.hid hct
  have hCs := Lib.hid hcs
  clear ht hs hct hcs
  have B1 := Lib.hid (below_alloc (Below.refl w.heap.size w) (.cells #[.string d.name, .slice at1 d.tasks.length k1, .slice as1 d.starts.length k2] 31))
  have X1 := Lib.hid (Whole.made w 31 #[.string d.name, .slice at1 d.tasks.length k1, .slice as1 d.starts.length k2] (b := w.heap.size) rfl)
  unfold storeR
  cases hok : okSaved d
  · rw [if_neg (by simp)]
    rw [hok] at hV
    clear hCt hCs
    go_enter Try.func7, Try.ntmps7
    go_wp2_with (go_at_call 15; (with_reducible refine (hV.out _ B1.out).mono ?_); rintro e w2 ⟨rfl, hb2⟩; have B2 := Lib.hid (below_on B1.out (Nat.le_refl _) hb2); clear hb2)
    first | exact ⟨rfl, B2.out⟩ | (go_ret2; exact ⟨rfl, B2.out⟩)
  rw [if_pos rfl]
  rw [hok] at hV
  have hOk := okS_of hok
  obtain ⟨i0, hi, hz0, hz1, hz2⟩ := info_parts infoB8
  have hLen : Hid (∀ k m, k ≤ d.tasks.length → m ≤ d.starts.length → (headB d ++ tasksB d.tasks k ++ startsB d.starts m).length ≤ 700) := Lib.hid fun k m a b => some_len hOk a b
  have hnt : d.tasks.length ≤ 16 := hOk.tasks.most
  have hsl := Lib.hid (show d.starts.length = d.tasks.length from hOk.len)
  have hsz := hOk.small
  have hOks := Lib.hid hOk
  clear hok hOk
  have u1 : IntKind.u8.wrap (d.name.size : Int) = d.name.size := IntWalk.u8_in _ (by omega)
  have u2 : IntKind.u8.wrap (d.tasks.length : Int) = d.tasks.length := IntWalk.u8_in _ (by omega)
  have hHd : Hid ([80, 76, 78, 49, (d.name.size : Int)] ++ numsOf d.name ++ [(d.tasks.length : Int)] = headB d ++ tasksB d.tasks 0) := Lib.hid (by simp [headB, tasksB])
  have hNl : (numsOf d.name).length = d.name.size := numsOf_len _
  have kc := fun (w : World) (C : Array Value) (n c : Nat) => run_convert_bytes_const (P := Try.prog) w 43 5 C n c Try.underlying43 Try.underlying5
  unfold maxLen at l1 l2 hp
  go_enter Try.func7, Try.ntmps7
  go_wp2_with (first
    | (go_at_call 15; (with_reducible refine (hV.out _ B1.out).mono ?_); rintro e w2 ⟨rfl, hb2⟩; have B2 := Lib.hid (below_on B1.out (Nat.le_refl _) hb2); have X2 := Lib.hid (X1.out.kept hb2); have c0 := (X2.out.more (.cells #[.int .u8 80, .int .u8 76, .int .u8 78, .int .u8 49] 5 (4, 5))).at_ (i := 0) rfl; clear hb2)
    | (at_builtin; refine buf_bytes rfl _ _ _ rfl w2.heap.size i0 Try.underlying43 hi hz0 hz1 hz2 v4 _ rfl w2 w4 [(d.tasks.length : Int)] L4.out (Nat.zero_lt_succ _) rfl (by simp [hNl]; omega) ?_; intro v5 w5 hb5 hk5; have L5 := Lib.hid (show Buf w2.heap.size w2 v5 (headB d ++ tasksB d.tasks 0) w5 by rw [← hHd.out]; exact hb5); have X5 := Lib.hid (hk5 _ _ _ (by decide) X4.out); have c1 := X5.out.at_ (i := 1) rfl; clear hb5 hk5)
    | (at_builtin; refine buf_text rfl _ _ _ _ rfl w2.heap.size i0 Try.underlying43 Try.underlying9 hi hz0 hz1 hz2 v3 _ rfl w2 w3 L3.out d.name rfl (by simp; omega) (by simp) ?_; intro v4 w4 hb4 hk4; have L4 := Lib.hid hb4; have X4 := Lib.hid (hk4 _ _ _ (by decide) X3.out); have c1 := X4.out.at_ (i := 1) rfl; clear hb4 hk4)
    | (at_builtin; refine buf_first rfl _ _ _ rfl i0 Try.underlying43 hi hz0 hz1 hz2 w2 (d.name.size : Int) rfl rfl ?_; intro v3 w3 hb3 hk3; have L3 := Lib.hid hb3; have X3 := Lib.hid (hk3 _ _ _ (by decide) X2.out); have c0 := X3.out.at_ (i := 0) rfl; clear hb3 hk3))
  have hWB := Lib.hid (fun wr v l (h : Buf w2.heap.size w2 v l wr) => (below_on B2.out (Nat.le_refl _) h.below : Below w.heap.size w wr))
  have hEnd : Hid (∀ v u w', Buf w2.heap.size w2 v u w' → Below w.heap.size w w') := Lib.hid fun v u w' h => hWB.out w' v u h
  clear L3 L4 X1 X2 X3 X4 c0 c1 hHd hV B1 u1 u2
  go_loopw [4, 38] (fun bv i wr => ∃ k : Nat, k ≤ d.tasks.length ∧ i = .int .i64 k ∧ Hid (Buf w2.heap.size w2 bv (headB d ++ tasksB d.tasks k) wr) ∧ Hid (Whole wr w.heap.size 31 #[.string d.name, .slice at1 d.tasks.length k1, .slice as1 d.starts.length k2])) (fun _ i _ => d.tasks.length - (intOf i).toNat)
  case atStart => exact ⟨0, Nat.zero_le _, rfl, L5, X5⟩
  case round =>
    obtain ⟨k, hk, rfl, hBf, hXs⟩ := hrel
    clear L5 X5
    generalize wr = wo at *
    have hl9 : Hid ((headB d ++ tasksB d.tasks k).length ≤ 700) := Lib.hid (by have := hLen.out k 0 hk (Nat.zero_le _); simpa [startsB] using this)
    by_cases hlt : k < d.tasks.length
    · obtain ⟨b, o, x, vb, vl, rfl, hbB, hx, h0, h1, h2, h3, l0, l1⟩ := hCt.out k hlt
      have hbw : b < w.heap.size := by omega
      have hBo := Lib.hid (hWB.out _ _ _ hBf.out)
      rw [← hBo.out.cell (p := ⟨b, o + k * 4, none⟩) hbw] at h0
      rw [← hBo.out.cell (p := ⟨b, o + k * 4 + 1, none⟩) hbw] at h1
      rw [← hBo.out.cell (p := ⟨b, o + k * 4 + 2, none⟩) hbw] at h2
      rw [← hBo.out.cell (p := ⟨b, o + k * 4 + 3, none⟩) hbw] at h3
      have hT := Lib.hid (hOks.out.tasks.each k x hx)
      have hbl : x.Before.length ≤ 16 := by have := before_len hT.out (by omega); omega
      have hll : x.Before.length = x.Lags.length := hT.out.len
      have hGx := Lib.hid (show d.tasks.getD k default = x from getD_some hx)
      obtain ⟨ab, nb, rfl, _, _, _, hcb⟩ := l0.at_
      obtain ⟨al, nl, rfl, _, _, _, hcl⟩ := l1.at_
      have E1 : Hid (∀ j, j < x.Before.length → ∃ b o, ab = some ⟨b, o, none⟩ ∧ b < w.heap.size ∧ w.cell? ⟨b, o + j, none⟩ = some (.int .i64 (bAt x j))) := Lib.hid fun j hj => by
        obtain ⟨b, o, y, q1, q2, q3, q4⟩ := hcb j hj
        exact ⟨b, o, q1, by omega, by rw [q4, bAt, getD_some q3]⟩
      have E2 : Hid (∀ j, j < x.Before.length → ∃ b o, al = some ⟨b, o, none⟩ ∧ b < w.heap.size ∧ w.cell? ⟨b, o + j, none⟩ = some (.int .i64 (lAt x j))) := Lib.hid fun j hj => by
        obtain ⟨b, o, y, q1, q2, q3, q4⟩ := hcl j (by omega)
        exact ⟨b, o, q1, by omega, by rw [q4, lAt, getD_some q3]⟩
      clear l0 l1 hcb hcl hx
      have w1 : IntKind.u8.wrap x.Time = x.Time := IntWalk.u8_in _ (by have := hT.out.time; omega)
      have w2' : IntKind.u8.wrap x.Needs = x.Needs := IntWalk.u8_in _ (by have := hT.out.needs; omega)
      have w3' : IntKind.u8.wrap (x.Before.length : Int) = x.Before.length := IntWalk.u8_in _ (by omega)
      have hLl := Lib.hid hll
      clear hll
      go_wp2_with (at_builtin; refine buf_bytes rfl _ _ _ rfl w2.heap.size i0 Try.underlying43 hi hz0 hz1 hz2 u4 _ rfl w2 (wo.alloc (.cells #[.int .i64 x.Time, .int .i64 x.Needs, .slice ab x.Before.length nb, .slice al x.Lags.length nl] 45)) [x.Time, x.Needs, (x.Before.length : Int)] (hBf.out.alloc _) (Nat.zero_lt_succ _) (by rw [World.size_alloc]; rfl) (by have := hl9.out; show _ + 3 ≤ _; omega) ?_; intro v9 w9 hb9 hk9; have L9 := Lib.hid (show Buf w2.heap.size w2 v9 ((headB d ++ tasksB d.tasks k) ++ (headT x ++ pairB x 0)) w9 from hb9); have XT := Lib.hid (hk9 _ _ _ (by decide) (Whole.made wo 45 #[.int .i64 x.Time, .int .i64 x.Needs, .slice ab x.Before.length nb, .slice al x.Lags.length nl] (b := wo.heap.size) rfl)); have XS := Lib.hid (hk9 _ _ _ (by decide) (hXs.out.more _)); have t2 := XT.out.at_ (i := 2) rfl; clear hb9 hk9)
      clear h0 h1 h2 h3 w1 w2' w3'
      go_loopw [4, 58] (fun bv2 i2 wr2 => ∃ j : Nat, j ≤ x.Before.length ∧ i2 = .int .i64 j ∧ Hid (Buf w2.heap.size w2 bv2 ((headB d ++ tasksB d.tasks k) ++ (headT x ++ pairB x j)) wr2) ∧ Hid (Whole wr2 w.heap.size 31 #[.string d.name, .slice (some ⟨b, o, none⟩) d.tasks.length k1, .slice as1 d.starts.length k2]) ∧ Hid (Whole wr2 wo.heap.size 45 #[.int .i64 x.Time, .int .i64 x.Needs, .slice ab x.Before.length nb, .slice al x.Lags.length nl])) (fun _ i2 _ => x.Before.length - (intOf i2).toNat)
      case atStart => exact ⟨0, Nat.zero_le _, rfl, L9, XS, XT⟩
      case round =>
        obtain ⟨j, hj, rfl, hBf2, hXs2, hXt2⟩ := hrel
        clear L9 XS XT t2
        have hl12 : Hid (((headB d ++ tasksB d.tasks k) ++ (headT x ++ pairB x j)).length ≤ 800) := Lib.hid (by have := hl9.out; simp only [List.length_append, headT, pairB_len, List.length_cons, List.length_nil] at this ⊢; omega)
        by_cases hjl : j < x.Before.length
        · obtain ⟨b1, o1, rfl, hb1, e1⟩ := E1.out j hjl
          obtain ⟨b2, o2, rfl, hb2, e2⟩ := E2.out j hjl
          have hBr := Lib.hid (hWB.out _ _ _ hBf2.out)
          rw [← hBr.out.cell (p := ⟨b1, _, none⟩) hb1] at e1
          rw [← hBr.out.cell (p := ⟨b2, _, none⟩) hb2] at e2
          have t3 := hXt2.out.at_ (i := 3) rfl
          have g1 : IntKind.u8.wrap (bAt x j) = bAt x j := IntWalk.u8_in _ (by have := hT.out.before j hjl; omega)
          have g2 : IntKind.i64.wrap (lAt x j + 100) = lAt x j + 100 := IntWalk.i64_in _ (by have := hT.out.lags j hjl; omega)
          have g3 : IntKind.u8.wrap (lAt x j + 100) = lAt x j + 100 := IntWalk.u8_in _ (by have := hT.out.lags j hjl; omega)
          have hjl2 : j < x.Lags.length := by have := hLl.out; omega
          go_wp2_with (at_builtin; refine buf_bytes rfl _ _ _ rfl w2.heap.size i0 Try.underlying43 hi hz0 hz1 hz2 u4 _ rfl w2 wr [bAt x j, lAt x j + 100] hBf2.out (Nat.zero_lt_succ _) rfl (by have := hl12.out; show _ + 2 ≤ _; omega) ?_; intro v9 w9 hb9 hk9; have L9 := Lib.hid (show Buf w2.heap.size w2 v9 ((headB d ++ tasksB d.tasks k) ++ (headT x ++ pairB x (j + 1))) w9 by simpa only [pairB, List.append_assoc] using hb9); have XT := Lib.hid (hk9 _ _ _ (by decide) hXt2.out); have XS := Lib.hid (hk9 _ _ _ (by decide) hXs2.out); clear hb9 hk9)
          go_roundw
          case rel => exact ⟨j + 1, by omega, by go_num, L9, XS, XT⟩
          case measure => simp [intOf]; omega
        · have L10 := Lib.hid (show Buf w2.heap.size w2 u4 (headB d ++ tasksB d.tasks (k + 1)) wr by
            have := hBf2.out
            have hje : j = x.Before.length := by omega
            rw [hje] at this
            simpa only [tasksB, taskB, hGx.out, List.append_assoc] using this)
          go_wp2_with fail
          go_roundw
          case rel => exact ⟨k + 1, by omega, by go_num, L10, hXs2⟩
          case measure => simp [intOf]; omega
    · obtain rfl : k = d.tasks.length := by omega
      have c2 := hXs.out.at_ (i := 2) rfl
      go_wp2_with fail
      have LS := Lib.hid (show Buf w2.heap.size w2 u4 (headB d ++ tasksB d.tasks d.tasks.length ++ startsB d.starts 0) wo by simpa only [startsB, List.append_nil] using hBf.out)
      clear c2 hBf hl9 hXs
      go_loopw [4, 80] (fun bv i wr => ∃ m : Nat, m ≤ d.starts.length ∧ i = .int .i64 m ∧ Hid (Buf w2.heap.size w2 bv (headB d ++ tasksB d.tasks d.tasks.length ++ startsB d.starts m) wr)) (fun _ i _ => d.starts.length - (intOf i).toNat)
      case atStart => exact ⟨0, Nat.zero_le _, rfl, LS⟩
      case round =>
        obtain ⟨m, hm, rfl, hBf⟩ := hrel
        clear LS
        by_cases hml : m < d.starts.length
        · obtain ⟨b, o, y, rfl, hb1, hy, e1⟩ := hCs.out m hml
          have hBr := Lib.hid (hWB.out _ _ _ hBf.out)
          rw [← hBr.out.cell (p := ⟨b, _, none⟩) (show b < w.heap.size by omega)] at e1
          have hyb := hOks.out.starts m y hy
          have hW := Lib.hid (withTwo_any w2.heap.size w2 wr u4 _ y hBf.out hyb.1 hyb.2 (by have := hLen.out d.tasks.length m (Nat.le_refl _) hm; omega))
          have hGy := Lib.hid (show d.starts.getD m 0 = y from getD_some hy)
          clear hy hyb
          go_wp2_with (go_at_call 16; (with_reducible refine (hW.out).mono ?_); rintro e w9 ⟨v9, rfl, hb9, hk9⟩; have L9 := Lib.hid (show Buf w2.heap.size w2 v9 (headB d ++ tasksB d.tasks d.tasks.length ++ startsB d.starts (m + 1)) w9 by simpa only [startsB, hGy.out, List.append_assoc] using hb9); clear hb9 hk9)
          go_roundw
          case rel => exact ⟨m + 1, by omega, by go_num, L9⟩
          case measure => simp [intOf]; omega
        · have hB0 : Buf w2.heap.size w2 u4 (bytesB d) wr := by
            have := hBf.out
            have hme : m = d.starts.length := by omega
            rw [hme] at this
            exact this
          have hLb : (bytesB d).length ≤ 700 := hLen.out _ _ (Nat.le_refl _) (Nat.le_refl _)
          have hck := chk_bound (strOfNums (bytesB d)).data.toList 0 (by omega) (by omega)
          have hCk := Lib.hid (fun w' => show Calls Try.prog 17 #[.int .i64 0, .string (strOfNums (bytesB d))] w' fun e w'' => e = .returned (.tuple #[.int .i64 (chkB d), .bool true]) ∧ w' = w'' by
            have := checkOf_any 0 (strOfNums (bytesB d)) (by rw [strOfNums_size]; unfold maxLen; omega) w'
            rwa [show checkOf 0 (strOfNums (bytesB d)) = .tuple #[.int .i64 (chkB d), .bool true] from if_pos ⟨by omega, by omega⟩] at this)
          have hS := Lib.hid (show strOfNums (bytesB d ++ [chkB d % 256, chkB d / 256]) = storeB d from rfl)
          rw [show chk 0 (strOfNums (bytesB d)).data.toList = chkB d from rfl] at hck
          obtain ⟨⟨g, c, rfl, _⟩, _⟩ := id hB0
          have hcv := hB0.text (n := (bytesB d).length) rfl 9 Try.underlying9
          have hW := Lib.hid (withTwo_any w2.heap.size w2 wr _ _ (chkB d) hB0 hck.1 (by omega) (by omega))
          clear hB0 hBf hck
          generalize bytesB d = L at *
          generalize hN : L.length = N at *
          have hNn := Lib.hid hN
          clear hN
          generalize chkB d = ck at *
          go_wp2_with (first | (go_at_call 17; (with_reducible refine (hCk.out _).mono ?_); rintro e w9 ⟨rfl, rfl⟩) | (go_at_call 16; (with_reducible refine (hW.out).mono ?_); rintro e w9 ⟨v9, rfl, hb9, hk9⟩; obtain ⟨⟨g9, c9, e9, _⟩, _⟩ := id hb9; rw [show (L ++ [ck % 256, ck / 256]).length = N + 2 by rw [List.length_append, hNn.out]; rfl] at e9; subst e9; have hcv9 := hb9.text (n := N + 2) (by rw [List.length_append, hNn.out]; rfl) 9 Try.underlying9; have hE := Lib.hid (hEnd.out _ _ _ hb9); clear hb9 hk9))
          first | exact ⟨by rw [← hS.out]; rfl, hE.out⟩ | (go_ret2; exact ⟨by rw [← hS.out]; rfl, hE.out⟩)
end Go.Proofs.Ytdggbjpfllnenaa
