/- Contract: the journal of lines, the model's with its tests; and both sides. Conditions: the table of powers of ten lies as Go's library lays it (the program's side). -/
import Derived.Test.YtpolhjkjgbfdhaaDoorJournalSpec
namespace Go.Proofs.YtpolhjkjgbfdhaaDoor
open Go.RowKit Go.Lst Go

theorem totJ_step (xs : List ByteArray) (k : Nat) : totJ xs k ≤ totJ xs (k + 1) := by
  cases hx : xs[k]? with
  | none => rw [(stJ_over (List.getElem?_eq_none_iff.1 hx)).2]; exact Nat.le_refl _
  | some x => rw [totJ_succ hx]; omega
set_option maxHeartbeats 4000000 in
set_option maxRecDepth 100000 in
theorem specJournalOf_any (B : Nat) (v : Value) (xs : List ByteArray) (w : World) (h : LstS B w v xs) (hB : B ≤ w.heap.size) (hxs : ∀ x ∈ xs, x.size ≤ 1048576) :
    Calls Tryd.prog 21 #[v] w fun e w' => e = .returned (.tuple #[.string (jR xs), .bool (okJ xs)]) ∧ Below w.heap.size w w' := by
  obtain ⟨a, cap, rfl, hl, hc⟩ := lstS_at h
  have hC := Lib.hid hc
  have hSz := Lib.hid (fun k x (hx : xs[k]? = some x) => hxs x (List.mem_of_getElem? hx))
  have hJ := Lib.hid (fun (ht : totJ xs xs.length ≤ 16000) => l08Journal_any B _ xs w h hB hxs ht)
  have hTot := Lib.hid (fun k (hk : k ≤ xs.length) (h : 16000 < totJ xs k) => j_tot hk h)
  have hNl := Lib.hid (fun k x (hx : xs[k]? = some x) (hn : nlIn x = true) => j_nl hx hn)
  have hBig := Lib.hid (fun (h : 16000 < (stJ xs xs.length).2.size) => j_big (Nat.le_refl _) h)
  have hYes := Lib.hid (fun (ha : ∀ (i : Nat) (x : ByteArray), xs[i]? = some x → nlIn x = false) (hs : (stJ xs xs.length).2.size ≤ 16000) => j_yes ha hs)
  have hTs := Lib.hid (fun k x (hx : xs[k]? = some x) => totJ_succ hx)
  have hTop := Lib.hid (fun (ht : totJ xs xs.length ≤ 16000) => stJ_top ht (Nat.le_refl xs.length))
  have h0 : totJ xs 0 = 0 := rfl
  generalize okJ xs = Q at *
  generalize jR xs = R at *
  generalize totJ xs = T at *
  generalize (stJ xs xs.length).2 = J at *
  generalize hlen : xs.length = n at *
  have hLn := Lib.hid hlen
  clear h hc hlen
  unfold maxLen at hl
  go_enter Tryd.func21, Tryd.ntmps21
  go_wp2_with fail
  go_loopw [4, 5] (fun tv iv wr => w = wr ∧ ∃ (k : Nat), k ≤ n ∧ iv = .int .i64 k ∧ tv = .int .i64 (T k : Int) ∧ T k ≤ 16000 ∧ Hid (∀ i x, i < k → xs[i]? = some x → nlIn x = false)) (fun _ iv _ => n - (intOf iv).toNat)
  case atStart => exact ⟨rfl, 0, Nat.zero_le _, rfl, by rw [h0]; rfl, by omega, Lib.hid (fun i x hi => absurd hi (Nat.not_lt_zero _))⟩
  case round =>
    clear h0
    obtain ⟨rfl, k, hk, rfl, rfl, hT, hAl⟩ := hrel
    by_cases hlt : k < n
    · obtain ⟨b, o, x, rfl, hbB, hx, hcx⟩ := hC.out k hlt
      have hxz := hSz.out k x hx
      have hT1 := hTs.out k x hx
      have hxx := Lib.hid hx
      clear hx
      by_cases hbg : 16000 < T k + (x.size + 3)
      · have hR := Lib.hid (hTot.out (k + 1) (by omega) (by rw [hT1]; exact hbg))
        clear hT1
        generalize T k = tk at *
        have hd : decide ((16000 : Int) < (tk : Int) + ((x.size : Int) + 3)) = true := decide_eq_true (by omega)
        go_wp2_with fail
        first | exact ⟨by rw [hR.out.1, hR.out.2], Below.refl _ _⟩ | (go_ret2; exact ⟨by rw [hR.out.1, hR.out.2]; rfl, Below.refl _ _⟩)
      · have hd : decide ((16000 : Int) < (T k : Int) + ((x.size : Int) + 3)) = false := decide_eq_false (by omega)
        have hT2 := Lib.hid hT1
        clear hT1
        generalize T k = tk at *
        go_wp2_with fail
        go_loopw [6] (fun jv w1 => w = w1 ∧ ∃ (m : Nat), m ≤ x.size ∧ jv = .int .i64 m ∧ Hid (∀ i (hi : i < x.size), i < m → x[i] ≠ 10)) (fun jv _ => x.size - (intOf jv).toNat)
        case atStart => exact ⟨rfl, 0, Nat.zero_le _, rfl, Lib.hid (fun i _ hi => absurd hi (Nat.not_lt_zero _))⟩
        case round =>
          obtain ⟨rfl, m, hm, rfl, hNo⟩ := hrel
          by_cases hml : m < x.size
          · by_cases he : x[m] = 10
            · have hR := Lib.hid (hNl.out k x hxx.out (nlIn_at hml he))
              have hbe : ((x[m].toNat : Int) == 10) = true := by rw [he]; rfl
              go_wp2_with fail
              first | exact ⟨by rw [hR.out.1, hR.out.2], Below.refl _ _⟩ | (go_ret2; exact ⟨by rw [hR.out.1, hR.out.2]; rfl, Below.refl _ _⟩)
            · have hbe : ((x[m].toNat : Int) == 10) = false := by
                rw [beq_eq_false_iff_ne]
                intro h
                exact he (UInt8.toNat_inj.1 (by have e : (10 : UInt8).toNat = 10 := rfl
                                                rw [e]; exact Int.ofNat_inj.1 h))
              have hNo2 : Hid (∀ i (hi : i < x.size), i < m + 1 → x[i] ≠ 10) := Lib.hid fun i hi h1 => by
                by_cases h2 : i < m
                · exact hNo.out i hi h2
                · obtain rfl : i = m := by omega
                  exact he
              clear he
              go_wp2_with fail
              go_roundw
              case rel => exact ⟨trivial, m + 1, by omega, by go_num, hNo2⟩
              case measure => simp [intOf]; omega
          · obtain rfl : m = x.size := by omega
            have hn := nlIn_no (x := x) fun i hi => hNo.out i hi hi
            have hAll2 : Hid (∀ i y, i < k + 1 → xs[i]? = some y → nlIn y = false) := Lib.hid fun i y hi hy => by
              by_cases h1 : i < k
              · exact hAl.out i y h1 hy
              · obtain rfl : i = k := by omega
                rw [hxx.out] at hy
                rw [← Option.some.inj hy]; exact hn
            clear hn
            go_wp2_with fail
            go_roundw
            case rel => exact ⟨trivial, k + 1, by omega, by go_num, by (try rw [hT2.out]) <;> (try congr 1) <;> (try omega), by rw [hT2.out]; omega, hAll2⟩
            case measure => simp [intOf]; omega
    · obtain rfl : k = n := by omega
      have hJc := Lib.hid (hJ.out hT)
      have hA : Hid (∀ (i : Nat) (x : ByteArray), xs[i]? = some x → nlIn x = false) := Lib.hid fun i x hi => hAl.out i x (by
        by_cases h3 : i < k
        · exact h3
        · rw [List.getElem?_eq_none (by rw [hLn.out]; omega)] at hi; cases hi) hi
      have hjz := hTop.out hT
      by_cases hbg : 16000 < J.size
      · have hR := Lib.hid (hBig.out hbg)
        have hd : decide ((16000 : Int) < (J.size : Int)) = true := decide_eq_true (by omega)
        clear hJ hBig hYes hTop
        go_wp2_with fail
        refine hJc.out.mono ?_
        rintro e w1 ⟨rfl, hb⟩
        have hB1 := Lib.hid hb
        clear hb
        go_wp2_with fail
        first | exact ⟨by rw [hR.out.1, hR.out.2], hB1.out⟩ | (go_ret2; exact ⟨by rw [hR.out.1, hR.out.2]; rfl, hB1.out⟩)
      · have hR := Lib.hid (hYes.out hA.out (by omega))
        have hd : decide ((16000 : Int) < (J.size : Int)) = false := decide_eq_false (by omega)
        clear hJ hBig hYes hTop
        go_wp2_with fail
        refine hJc.out.mono ?_
        rintro e w1 ⟨rfl, hb⟩
        have hB1 := Lib.hid hb
        clear hb
        go_wp2_with fail
        first | exact ⟨by rw [hR.out.1, hR.out.2], hB1.out⟩ | (go_ret2; exact ⟨by rw [hR.out.1, hR.out.2]; rfl, hB1.out⟩)
theorem journalOf_both (xs : List ByteArray) (hxs : ∀ x ∈ xs, x.size ≤ 1048576) : ∃ (r0 : ByteArray) (r1 : Bool),
    (∀ (B : Nat) (v : Value) (w : World), LstS B w v xs → B ≤ w.heap.size → Calls Tryd.prog 21 #[v] w fun e w' => e = .returned (.tuple #[.string r0, .bool r1]) ∧ Below w.heap.size w w') ∧
    (∀ (B : Nat) (v : Value) (w : World), Tab10 w → LstS B w v xs → B ≤ w.heap.size → Calls Tryd.prog 23 #[v] w fun e w' => e = .returned (.tuple #[.string r0, .bool r1]) ∧ Below w.heap.size w w') :=
  ⟨jR xs, okJ xs, fun B v w h hB => specJournalOf_any B v xs w h hB hxs, fun B v w hT h hB => journalOf_any B v xs w h hB hxs hT⟩
end Go.Proofs.YtpolhjkjgbfdhaaDoor
