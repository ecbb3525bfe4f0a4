/- Contracts: the number that a text spells, read by the program's ParseInt and by the model's loop. Conditions: the table of powers of ten lies as the library's text lays it, and the two errors of strconv hold some error (the program's side). -/
import Derived.Test.YtpolhjkjgbfdhaaDoorListText
import Derived.Test.YtpolhjkjgbfdhaaDoorReadPure
import Derived.Test.YtpolhjkjgbfdhaaDoorLayParse
import Derived.Shelf.Strconv.ParseIntPublic10
import Derived.Lib.SlicesS
namespace Go.Proofs.YtpolhjkjgbfdhaaDoor
open Go.RowKit Go.Lst Go

/-- The two errors of strconv are errors. -/
def ErrsAt (w : World) : Prop := (∃ te pe, w.cell? ⟨Tryd.laysC174_ren.g 15, 0, none⟩ = some (.iface te pe)) ∧ ∃ te pe, w.cell? ⟨Tryd.laysC174_ren.g 16, 0, none⟩ = some (.iface te pe)
theorem ErrsAt.kept {w w' : World} (h : ErrsAt w) (hb : Below w.heap.size w w') : ErrsAt w' := by
  obtain ⟨⟨t1, p1, h1⟩, t2, p2, h2⟩ := h
  exact ⟨⟨t1, p1, by rw [hb.cell (p := ⟨_, 0, none⟩) (World.block_lt_of_cell? w _ h1)]; exact h1⟩, t2, p2, by rw [hb.cell (p := ⟨_, 0, none⟩) (World.block_lt_of_cell? w _ h2)]; exact h2⟩
theorem end_cases (x : Lib.NumEnd Int) : (∃ v, x = .ok v) ∨ x = Lib.NumEnd.syntax ∨ x = .range := by
  cases x
  · exact .inl ⟨_, rfl⟩
  · exact .inr (.inl rfl)
  · exact .inr (.inr rfl)
theorem num_bad {s : ByteArray} (h : ∀ v, Lib.parseIntB 64 s.data.toList ≠ .ok v) : isNum s = false := by
  unfold isNum
  rcases end_cases (Lib.parseIntB 64 s.data.toList) with ⟨v, hp⟩ | hp | hp
  · exact absurd hp (h v)
  · rw [hp]
  · rw [hp]
theorem parse_ok (s : ByteArray) (hs : s.size ≤ 1048576) (v : Int) (h : Lib.parseIntB 64 s.data.toList = .ok v) (w : World) :
    Calls Tryd.prog 109 #[.string s, .int .i64 10, .int .i64 64] w fun e w' => e = .returned (.tuple #[.int .i64 v, .nilIface]) ∧ Below w.heap.size w w' :=
  (Any.strconv_ParseInt_10_at64_ok Tryd.laysC174 s (by omega) v h w).mono fun e w' ⟨he, hw⟩ => ⟨he, by
    rcases hw with rfl | ⟨t, rfl⟩
    · exact Below.refl _ _
    · exact Lib.bytesWorld_below _ _ _⟩
theorem parse_bad (s : ByteArray) (hs : s.size ≤ 1048576) (h : ∀ v, Lib.parseIntB 64 s.data.toList ≠ .ok v) (w : World) (hE : ErrsAt w) :
    Calls Tryd.prog 109 #[.string s, .int .i64 10, .int .i64 64] w fun e w' => ∃ r tp p, e = .returned (.tuple #[.int .i64 r, .iface tp p]) ∧ Below w.heap.size w w' := by
  obtain ⟨⟨t1, p1, h1⟩, t2, p2, h2⟩ := hE
  rcases end_cases (Lib.parseIntB 64 s.data.toList) with ⟨v, hp⟩ | hp | hp
  · exact absurd hp (h v)
  · exact (Any.strconv_ParseInt_10_at64_syntax Tryd.laysC174 s (by omega) hp _ w h1 (.inr ⟨t1, p1, rfl⟩)).mono fun e w' ⟨N, he, _, _, hb⟩ => ⟨_, _, _, he, hb⟩
  · exact (Any.strconv_ParseInt_10_at64_range Tryd.laysC174 s (by omega) hp _ w h2 (.inr ⟨t2, p2, rfl⟩)).mono fun e w' ⟨N, he, _, _, hb⟩ => ⟨_, _, _, he, hb⟩
set_option maxHeartbeats 2000000 in
set_option maxRecDepth 100000 in
theorem readDecimal_any (s : ByteArray) (hs : s.size ≤ 1048576) (w : World) (hT : Tab10 w) (hE : ErrsAt w) :
    Calls Tryd.prog 98 #[.string s] w fun e w' => e = .returned (.tuple #[.int .i64 (numR s), .bool (isNum s)]) ∧ Below w.heap.size w w' := by
  by_cases hok : ∃ v, Lib.parseIntB 64 s.data.toList = .ok v
  · obtain ⟨v, hp⟩ := hok
    have hP := Lib.hid (parse_ok s hs v hp w)
    have hval : valI s = v := by unfold valI; rw [hp]
    have hV := Lib.hid (fun w' => isValue_any v w')
    cases hq : inB v (-1000000000000000) 1000000000000000
    · have hno : isNum s = false := by
        unfold isNum; rw [hp]
        rcases inB_false hq with h | h
        · simp only [Bool.and_eq_false_iff, decide_eq_false_iff_not]; exact .inl (.inl (by omega))
        · simp only [Bool.and_eq_false_iff, decide_eq_false_iff_not]; exact .inl (.inr (by omega))
      have hr : numR s = 0 := by unfold numR; rw [hno]; rfl
      rw [hno, hr]
      rw [hq] at hV
      clear hp hval hq hno hr hT hE
      go_enter Tryd.func98, Tryd.ntmps98
      go_wp2_with fail
      refine hP.out.mono ?_
      rintro e w1 ⟨rfl, hb1⟩
      have hB := Lib.hid hb1
      clear hb1 hP
      go_wp2_with (first | (go_at_call 88; (with_reducible refine (hV.out _).mono ?_); rintro e w' ⟨rfl, rfl⟩))
      first | exact ⟨rfl, hB.out⟩ | (go_ret2; exact ⟨rfl, hB.out⟩)
    · obtain ⟨hv0, hv1⟩ := inB_true hq
      rw [hq] at hV
      have hD := Lib.hid (fun w' (hb : Below w.heap.size w w') => decimal_any v (by omega) (by omega) w' (hT.kept hb))
      by_cases he : decS v = s
      · have hyes : isNum s = true := by rw [← he]; exact (num_yes hv0 hv1).1
        have hr : numR s = v := by unfold numR; rw [hyes]; exact hval
        rw [hyes, hr]
        rw [he] at hD
        clear hp hval hq hyes hr hT hE he
        have heq : (s.toList == s.toList) = true := by simp
        have hne : (s.toList != s.toList) = false := by simp
        go_enter Tryd.func98, Tryd.ntmps98
        go_wp2_with fail
        refine hP.out.mono ?_
        rintro e w1 ⟨rfl, hb1⟩
        have hB1 := Lib.hid hb1
        clear hb1 hP
        go_wp2_with (first | (go_at_call 88; (with_reducible refine (hV.out _).mono ?_); rintro e w' ⟨rfl, rfl⟩) | (go_at_call 77; (with_reducible refine (hD.out _ hB1.out).mono ?_); rintro e w2 ⟨rfl, hb⟩; have hB := Lib.hid (below_on hB1.out (Nat.le_refl _) hb); clear hb))
        first | exact ⟨rfl, hB.out⟩ | (go_ret2; exact ⟨rfl, hB.out⟩)
      · have hno : isNum s = false := by
          unfold isNum; rw [hp]
          simp only [Bool.and_eq_false_iff, decide_eq_false_iff_not]; exact .inr (fun h => he (decS_iff.1 h))
        have hr : numR s = 0 := by unfold numR; rw [hno]; rfl
        rw [hno, hr]
        clear hp hval hq hno hr hT hE
        generalize decS v = t at *
        have hl : ¬ t.toList = s.toList := fun h => he ((Lib.bytes_beq_iff t s).1 (by simpa using h))
        have heq : (t.toList == s.toList) = false := by simpa using hl
        have hne : (t.toList != s.toList) = true := by simpa using hl
        clear he
        go_enter Tryd.func98, Tryd.ntmps98
        go_wp2_with fail
        refine hP.out.mono ?_
        rintro e w1 ⟨rfl, hb1⟩
        have hB1 := Lib.hid hb1
        clear hb1 hP
        go_wp2_with (first | (go_at_call 88; (with_reducible refine (hV.out _).mono ?_); rintro e w' ⟨rfl, rfl⟩) | (go_at_call 77; (with_reducible refine (hD.out _ hB1.out).mono ?_); rintro e w2 ⟨rfl, hb⟩; have hB := Lib.hid (below_on hB1.out (Nat.le_refl _) hb); clear hb))
        first | exact ⟨rfl, hB.out⟩ | (go_ret2; exact ⟨rfl, hB.out⟩)
  · have hbad : ∀ v, Lib.parseIntB 64 s.data.toList ≠ .ok v := fun v hv => hok ⟨v, hv⟩
    have hP := Lib.hid (parse_bad s hs hbad w hE)
    have hno := num_bad hbad
    have hr : numR s = 0 := by unfold numR; rw [hno]; rfl
    rw [hno, hr]
    clear hno hr hT hE hok hbad
    go_enter Tryd.func98, Tryd.ntmps98
    go_wp2_with fail
    refine hP.out.mono ?_
    rintro e w1 ⟨r, tp, p, rfl, hb1⟩
    have hB := Lib.hid hb1
    clear hb1 hP
    go_wp2_with fail
    first | exact ⟨rfl, hB.out⟩ | (go_ret2; exact ⟨rfl, hB.out⟩)
theorem num_short {s : ByteArray} (h : s.size < 1 ∨ 17 < s.size) : isNum s = false := by
  cases hq : isNum s
  · rfl
  · have := num_len hq
    omega
set_option maxHeartbeats 4000000 in
set_option maxRecDepth 100000 in
theorem l01Value_any (s : ByteArray) (hs : s.size ≤ 1048576) (w : World) :
    Calls Tryd.prog 96 #[.string s] w fun e w' => e = .returned (.tuple #[.int .i64 (numR s), .bool (isNum s)]) ∧ Below w.heap.size w w' := by
  by_cases h0 : s.size < 1
  · have hno := num_short (.inl h0)
    have hr : numR s = 0 := by unfold numR; rw [hno]; rfl
    rw [hno, hr]
    clear hno hr
    have hd : decide ((s.size : Int) < 1) = true := decide_eq_true (by omega)
    go_enter Tryd.func96, Tryd.ntmps96
    go_wp2_with fail
    first | exact ⟨rfl, Below.refl _ _⟩ | (go_ret2; exact ⟨rfl, Below.refl _ _⟩)
  by_cases h17 : 17 < s.size
  · have hno := num_short (.inr h17)
    have hr : numR s = 0 := by unfold numR; rw [hno]; rfl
    rw [hno, hr]
    clear hno hr
    go_enter Tryd.func96, Tryd.ntmps96
    go_wp2_with fail
    first | exact ⟨rfl, Below.refl _ _⟩ | (go_ret2; exact ⟨rfl, Below.refl _ _⟩)
  have hle : ∀ k, k ≤ s.size → numTo s k < 100000000000000000 := fun k hk => by
    have h1 := numTo_le s k
    have h2 : 10 ^ k ≤ 10 ^ 17 := Nat.pow_le_pow_right (by omega) (by omega)
    have h3 : (10 : Nat) ^ 17 = 100000000000000000 := by decide
    omega
  have hLe := Lib.hid hle
  have hSt := Lib.hid (fun k (h : k < s.size) => numTo_step (s := s) (k := k) (c := s[k]) (List.getElem?_eq_getElem (show k < s.data.toList.length by rw [Array.length_toList]; exact h)))
  have hN0 : Hid (numTo s 0 = 0) := Lib.hid rfl
  have hSg := Lib.hid (show signed s = if ((s[0]'(by omega)).toNat : Int) = 45 then -(numTo s s.size : Int) else numTo s s.size by
    unfold signed
    have e : s.data.toList.head? = some (s[0]'(by omega)) := by
      rw [List.head?_eq_getElem?, List.getElem?_eq_getElem (show 0 < s.data.toList.length by rw [Array.length_toList]; show 0 < s.size; omega)]; rfl
    rw [e]
    by_cases h : (s[0]'(by omega)) = 45
    · rw [h, if_pos rfl, if_pos (by decide)]
    · have h2 : ¬ ((s[0]'(by omega)).toNat : Int) = 45 := fun h' => h (UInt8.toNat_inj.1 (Int.ofNat_inj.1 h'))
      rw [if_neg (by simpa using h), if_neg h2])
  have hIs := Lib.hid (num_signed s)
  have hVal := Lib.hid (fun h => num_val (s := s) h)
  have hDec := Lib.hid (fun n w' (h0 : -1000000000000000 ≤ n) (h1 : n ≤ 1000000000000000) => l01Dec_any n (by omega) (by omega) w')
  have hLast := Lib.hid (hle s.size (Nat.le_refl _))
  have hR : Hid (isNum s = false → numR s = 0) := Lib.hid fun hno => by unfold numR; rw [hno]; rfl
  clear hle
  generalize numTo s = M at *
  generalize numR s = R at *
  generalize isNum s = Q at *
  generalize signed s = G at *
  go_enter Tryd.func96, Tryd.ntmps96
  go_wp2_with fail
  go_loopw [4, 5] (fun nv iv wr => wr = w ∧ ∃ (k : Nat), k ≤ s.size ∧ iv = .int .i64 k ∧ nv = .int .i64 (M k : Int)) (fun _ iv _ => s.size - (intOf iv).toNat)
  case atStart => exact ⟨rfl, 0, Nat.zero_le _, rfl, by rw [hN0.out]; rfl⟩
  case round =>
    obtain ⟨rfl, k, hk, rfl, rfl⟩ := hrel
    have hMk := hLe.out k hk
    by_cases hlt : k < s.size
    · have hS := Lib.hid (hSt.out k hlt)
      have hb := s[k].toNat_lt
      by_cases hc0 : 48 ≤ s[k].toNat
      · by_cases hc1 : s[k].toNat ≤ 57
        · have hS2 : Hid (M (k + 1) = 10 * M k + (s[k].toNat - 48)) := Lib.hid (by rw [hS.out]; unfold numStep; rw [if_pos ⟨hc0, hc1⟩])
          clear hS
          have hc0' : (48 : Int) ≤ (s[k].toNat : Int) := by omega
          have hc1' : (s[k].toNat : Int) ≤ 57 := by omega
          go_wp2_with fail
          go_roundw
          case rel => exact ⟨trivial, k + 1, by omega, by go_num, by rw [hS2.out]; congr 1; omega⟩
          case measure => simp [intOf]; omega
        · have hS2 : Hid (M (k + 1) = M k) := Lib.hid (by rw [hS.out]; unfold numStep; rw [if_neg (by omega)])
          clear hS
          have hc1' : ¬ (s[k].toNat : Int) ≤ 57 := by omega
          go_wp2_with fail
          go_roundw
          case rel => exact ⟨trivial, k + 1, by omega, by go_num, by rw [hS2.out]⟩
          case measure => simp [intOf]; omega
      · have hS2 : Hid (M (k + 1) = M k) := Lib.hid (by rw [hS.out]; unfold numStep; rw [if_neg (by omega)])
        clear hS
        have hc0' : ¬ (48 : Int) ≤ (s[k].toNat : Int) := by omega
        go_wp2_with fail
        go_roundw
        case rel => exact ⟨trivial, k + 1, by omega, by go_num, by rw [hS2.out]⟩
        case measure => simp [intOf]; omega
    · obtain rfl : k = s.size := by omega
      have h00 : 0 < s.size := by omega
      have hlastB := hLast.out
      have hEnd : Hid (∀ (g : Int), G = g → -99999999999999999 ≤ g → g ≤ 99999999999999999 → ∃ q : Bool, inB g (-1000000000000000) 1000000000000000 = q ∧ (q = false → Q = false ∧ R = 0) ∧ (q = true → ((decS g = s ∧ Q = true ∧ R = g) ∨ (decS g ≠ s ∧ Q = false ∧ R = 0)))) := Lib.hid fun g hg _ _ => ⟨_, rfl, fun hq => by
          have : Q = false := by
            rw [hIs.out, hg]
            rcases inB_false hq with h | h
            · simp only [Bool.and_eq_false_iff, decide_eq_false_iff_not]; exact .inl (.inl (by omega))
            · simp only [Bool.and_eq_false_iff, decide_eq_false_iff_not]; exact .inl (.inr (by omega))
          exact ⟨this, hR.out this⟩, fun hq => by
          obtain ⟨hv0, hv1⟩ := inB_true hq
          by_cases he : decS g = s
          · have : Q = true := by rw [hIs.out, hg]; simp [hv0, hv1, he]
            exact .inl ⟨he, this, by rw [hVal.out this, hg]⟩
          · have : Q = false := by rw [hIs.out, hg]; simp [he]
            exact .inr ⟨he, this, hR.out this⟩⟩
      clear hIs hVal hR hLe hSt hN0
      by_cases h45 : ((s[0]'h00).toNat : Int) = 45
      · have hg : G = -(M s.size : Int) := by rw [hSg.out, if_pos h45]
        obtain ⟨q, hq, hq0, hq1⟩ := hEnd.out _ hg (by omega) (by omega)
        have hIn := Lib.hid (fun w' => l00In_is (-(M s.size : Int)) (-1000000000000000) 1000000000000000 hq w')
        cases q
        · obtain ⟨hQ, hR0⟩ := hq0 rfl
          subst hQ hR0
          clear hEnd hSg hDec hq hq0 hq1 hLast
          go_wp2_with (first | (go_at_call 64; (with_reducible refine (hIn.out _).mono ?_); rintro e w' ⟨rfl, rfl⟩))
          first | exact ⟨rfl, Below.refl _ _⟩ | (go_ret2; exact ⟨rfl, Below.refl _ _⟩)
        · have hDc := Lib.hid (hDec.out (-(M s.size : Int)) wr (inB_true hq).1 (inB_true hq).2)
          rcases hq1 rfl with ⟨he, hQ, hR1⟩ | ⟨he, hQ, hR0⟩
          · rw [he] at hDc
            subst hQ hR1
            have heq : (s.toList == s.toList) = true := by simp
            have hne : (s.toList != s.toList) = false := by simp
            clear hEnd hSg hDec hq hq0 hq1 he hLast
            go_wp2_with (first | (go_at_call 64; (with_reducible refine (hIn.out _).mono ?_); rintro e w' ⟨rfl, rfl⟩) | (go_at_call 75; (with_reducible refine hDc.out.mono ?_); rintro e w2 ⟨rfl, hb⟩; have hB := Lib.hid hb; clear hb))
            first | exact ⟨rfl, hB.out⟩ | (go_ret2; exact ⟨rfl, hB.out⟩)
          · subst hQ hR0
            generalize decS (-(M s.size : Int)) = t at *
            have hl : ¬ t.toList = s.toList := fun h => he ((Lib.bytes_beq_iff t s).1 (by simpa using h))
            have heq : (t.toList == s.toList) = false := by simpa using hl
            have hne : (t.toList != s.toList) = true := by simpa using hl
            clear hEnd hSg hDec hq hq0 hq1 he hLast
            go_wp2_with (first | (go_at_call 64; (with_reducible refine (hIn.out _).mono ?_); rintro e w' ⟨rfl, rfl⟩) | (go_at_call 75; (with_reducible refine hDc.out.mono ?_); rintro e w2 ⟨rfl, hb⟩; have hB := Lib.hid hb; clear hb))
            first | exact ⟨rfl, hB.out⟩ | (go_ret2; exact ⟨rfl, hB.out⟩)
      · have hg : G = (M s.size : Int) := by rw [hSg.out, if_neg h45]
        obtain ⟨q, hq, hq0, hq1⟩ := hEnd.out _ hg (by omega) (by omega)
        have hIn := Lib.hid (fun w' => l00In_is (M s.size : Int) (-1000000000000000) 1000000000000000 hq w')
        cases q
        · obtain ⟨hQ, hR0⟩ := hq0 rfl
          subst hQ hR0
          clear hEnd hSg hDec hq hq0 hq1 hLast
          go_wp2_with (first | (go_at_call 64; (with_reducible refine (hIn.out _).mono ?_); rintro e w' ⟨rfl, rfl⟩))
          first | exact ⟨rfl, Below.refl _ _⟩ | (go_ret2; exact ⟨rfl, Below.refl _ _⟩)
        · have hDc := Lib.hid (hDec.out (M s.size : Int) wr (inB_true hq).1 (inB_true hq).2)
          rcases hq1 rfl with ⟨he, hQ, hR1⟩ | ⟨he, hQ, hR0⟩
          · rw [he] at hDc
            subst hQ hR1
            have heq : (s.toList == s.toList) = true := by simp
            have hne : (s.toList != s.toList) = false := by simp
            clear hEnd hSg hDec hq hq0 hq1 he hLast
            go_wp2_with (first | (go_at_call 64; (with_reducible refine (hIn.out _).mono ?_); rintro e w' ⟨rfl, rfl⟩) | (go_at_call 75; (with_reducible refine hDc.out.mono ?_); rintro e w2 ⟨rfl, hb⟩; have hB := Lib.hid hb; clear hb))
            first | exact ⟨rfl, hB.out⟩ | (go_ret2; exact ⟨rfl, hB.out⟩)
          · subst hQ hR0
            generalize decS (M s.size : Int) = t at *
            have hl : ¬ t.toList = s.toList := fun h => he ((Lib.bytes_beq_iff t s).1 (by simpa using h))
            have heq : (t.toList == s.toList) = false := by simpa using hl
            have hne : (t.toList != s.toList) = true := by simpa using hl
            clear hEnd hSg hDec hq hq0 hq1 he hLast
            go_wp2_with (first | (go_at_call 64; (with_reducible refine (hIn.out _).mono ?_); rintro e w' ⟨rfl, rfl⟩) | (go_at_call 75; (with_reducible refine hDc.out.mono ?_); rintro e w2 ⟨rfl, hb⟩; have hB := Lib.hid hb; clear hb))
            first | exact ⟨rfl, hB.out⟩ | (go_ret2; exact ⟨rfl, hB.out⟩)
end Go.Proofs.YtpolhjkjgbfdhaaDoor
