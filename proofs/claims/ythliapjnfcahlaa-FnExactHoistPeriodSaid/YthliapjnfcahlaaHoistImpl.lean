/- Contracts: the least period of a hoist, in the program. -/
import Derived.Test.YthliapjnfcahlaaHoistPure
import Derived.Test.YthliapjnfcahlaaTimes
namespace Go.Proofs.Ythliapjnfcahlaa
open Go.RowKit Go.Lst

def HoistPost (ss ms : List Int) (most : Int) (w : World) (e : Ending) (w' : World) : Prop := e = .returned (.tuple #[.int .i64 (hoistRes ss ms most).1, .bool (hoistRes ss ms most).2]) ∧ Below w.heap.size w w'
theorem hpost {ss ms : List Int} {most x : Int} {ok : Bool} {w w' : World} (h : hoistRes ss ms most = (x, ok)) (hb : Below w.heap.size w w') : HoistPost ss ms most w (.returned (.tuple #[.int .i64 x, .bool ok])) w' := by
  unfold HoistPost; rw [h]; exact ⟨rfl, hb⟩
set_option maxHeartbeats 2000000 in
theorem areForHoist_any (B : Nat) (v1 v2 : Value) (ss ms : List Int) (w : World) (h1 : LstI B w v1 ss) (h2 : LstI B w v2 ms) :
    Calls Try.prog 86 #[v1, v2] w fun e w' => e = .returned (.bool (okRuns ss && decide (ms.length = ss.length + 1) && allIn ms 1 100)) ∧ w = w' := by
  have hA1 := Lib.hid (areWithin_any B v1 ss 0 1000 w h1.lst)
  have hA2 := Lib.hid (areWithin_any B v2 ms 1 100 w h2.lst)
  obtain ⟨a1, cap1, rfl, hl1, _⟩ := h1.at_
  obtain ⟨a2, cap2, rfl, hl2, _⟩ := h2.at_
  clear h1 h2
  have hK := Lib.hid (show (okRuns ss && decide (ms.length = ss.length + 1) && allIn ms 1 100) = (decide (1 ≤ ss.length) && decide (ss.length ≤ 12) && allIn ss 0 1000 && decide (ms.length = ss.length + 1) && allIn ms 1 100) from rfl)
  generalize (okRuns ss && decide (ms.length = ss.length + 1) && allIn ms 1 100) = ok at *
  generalize ss.length = n at *
  generalize ms.length = m at *
  unfold maxLen at hl1 hl2
  by_cases c1 : 1 ≤ n
  case neg =>
    have d1 : decide ((n : Int) < 1) = true := decide_eq_true (by omega)
    have hk := hK.out
    rw [decide_eq_false c1, Bool.false_and, Bool.false_and, Bool.false_and, Bool.false_and] at hk
    subst hk
    go_enter Try.func86, Try.ntmps86
    go_wp2_with fail
    go_ret
    exact ⟨rfl, rfl⟩
  case pos =>
    have d1 : decide ((n : Int) < 1) = false := decide_eq_false (by omega)
    by_cases c2 : n ≤ 12
    case neg =>
      have d2 : decide ((12 : Int) < (n : Int)) = true := decide_eq_true (by omega)
      have hk := hK.out
      rw [decide_eq_false c2, Bool.and_false, Bool.false_and, Bool.false_and, Bool.false_and] at hk
      subst hk
      go_enter Try.func86, Try.ntmps86
      go_wp2_with fail
      go_ret
      exact ⟨rfl, rfl⟩
    case pos =>
      have d2 : decide ((12 : Int) < (n : Int)) = false := decide_eq_false (by omega)
      by_cases c3 : m = n + 1
      case neg =>
        have d3 : ((m : Int) != (n : Int) + 1) = true := by rw [bne_iff_ne]; omega
        have hk := hK.out
        rw [decide_eq_false c3, Bool.and_false, Bool.false_and] at hk
        subst hk
        go_enter Try.func86, Try.ntmps86
        go_wp2_with fail
        go_ret
        exact ⟨rfl, rfl⟩
      case pos =>
        have d3 : ((m : Int) != (n : Int) + 1) = false := by rw [bne_eq_false_iff_eq]; omega
        have hk := hK.out
        rw [decide_eq_true c1, decide_eq_true c2, decide_eq_true c3, Bool.true_and, Bool.true_and, Bool.and_true] at hk
        clear c3 hK
        generalize allIn ss 0 1000 = q1 at *
        generalize allIn ms 1 100 = q2 at *
        subst hk
        cases q1
        · go_enter Try.func86, Try.ntmps86
          go_wp2_with (go_at_call 57; (with_reducible refine (hA1.out).mono ?_); rintro e w' ⟨rfl, rfl⟩)
          go_ret
          exact ⟨rfl, rfl⟩
        · go_enter Try.func86, Try.ntmps86
          go_wp2_with (go_at_call 57; first | ((with_reducible refine (hA1.out).mono ?_); rintro e w' ⟨rfl, rfl⟩) | ((with_reducible refine (hA2.out).mono ?_); rintro e w' ⟨rfl, rfl⟩))
          go_ret
          exact ⟨rfl, rfl⟩
theorem remG_nat {a b P : Nat} (h : b ≤ a) : remG ((a : Int) - (b : Int)) (P : Int) = (((a - b) % P : Nat) : Int) := by
  unfold remG
  rw [← Int.ofNat_sub h]; rfl
set_option maxHeartbeats 1000000 in
theorem remainderOf_wide (x p : Int) (w : World) (h1 : 1 ≤ p) (h2 : p ≤ 1000000) : Calls Try.prog 75 #[.int .i64 x, .int .i64 p] w fun e w' => e = .returned (.int .i64 (remG x p)) ∧ w = w' := by
  have a1 := tmod_in (x := x) h1
  have a2 := tmod_in (x := x.tmod p + p) h1
  have hp0 : ¬ p = 0 := by omega
  have hpb : (p == 0) = false := by simpa using hp0
  have hw1 : IntKind.i64.wrap (x.tmod p) = x.tmod p := IntWalk.i64_in _ (by omega)
  have hw2 : IntKind.i64.wrap (x.tmod p + p) = x.tmod p + p := IntWalk.i64_in _ (by omega)
  have hw3 : IntKind.i64.wrap ((x.tmod p + p).tmod p) = (x.tmod p + p).tmod p := IntWalk.i64_in _ (by omega)
  go_enter Try.func75, Try.ntmps75
  go_wp2_with fail
  go_ret
  exact ⟨ret_int (by first | exact tm_eq | exact tm_eq2 h1), rfl⟩
set_option maxHeartbeats 4000000 in
theorem movesApart_any (B : Nat) (v1 v2 : Value) (bs ms : List Int) (b : Nat → Nat) (P n : Nat) (w : World) (h1 : LstI B w v1 bs) (h2 : LstI B w v2 ms) (hn1 : bs.length = n) (hn2 : ms.length = n) (hP1 : 1 ≤ P) (hP2 : P ≤ 10000)
    (hb : ∀ i, i < n → bs[i]? = some ((b i : Nat) : Int) ∧ b i ≤ 20000) (hm : ∀ i, i < n → ms[i]? = some ((mov ms i : Nat) : Int) ∧ mov ms i ≤ 100) (hmo : ∀ i k, k ≤ i → b k ≤ b i) :
    Calls Try.prog 88 #[v1, v2, .int .i64 P] w fun e w' => e = .returned (.bool (apartAll b (mov ms) P n)) ∧ w = w' := by
  obtain ⟨a1, cap1, rfl, hl1, _, _, hc1⟩ := h1.at_
  obtain ⟨a2, cap2, rfl, hl2, _, _, hc2⟩ := h2.at_
  rw [hn1] at hl1 hc1 ⊢
  rw [hn2] at hl2 hc2 ⊢
  have hC1 := Lib.hid hc1
  have hC2 := Lib.hid hc2
  have hBs := Lib.hid hb
  have hMs := Lib.hid hm
  have hMo := Lib.hid hmo
  have hNo : Hid (∀ i k, i < n → k < i → apart2 b (mov ms) P i k = false → apartAll b (mov ms) P n = false) := Lib.hid fun i k hi hk hq => by
    cases ha : apartAll b (mov ms) P n
    · rfl
    · have := apartAll_iff.1 ha i k hi hk
      rw [hq] at this; cases this
  have hYes : Hid ((∀ i k, i < n → k < i → apart2 b (mov ms) P i k = true) → apartAll b (mov ms) P n = true) := Lib.hid apartAll_iff.2
  clear h1 h2 hc1 hc2 hb hm hn1 hn2 hmo
  generalize apartAll b (mov ms) P n = res at *
  unfold maxLen at hl1 hl2
  go_enter Try.func88, Try.ntmps88
  go_wp2_with fail
  go_loopw [13] (fun iv wr => ∃ i : Nat, i ≤ n ∧ iv = .int .i64 i ∧ Hid (∀ j k, j < i → k < j → apart2 b (mov ms) P j k = true) ∧ w = wr) (fun iv _ => n - (intOf iv).toNat)
  case atStart => exact ⟨0, Nat.zero_le _, rfl, Lib.hid (fun j k hj _ => by omega), rfl⟩
  case round =>
    obtain ⟨i, hi, rfl, hA, rfl⟩ := hrel
    by_cases hlt : i < n
    · obtain ⟨b1, o1, x, rfl, _, hx, p1⟩ := hC1.out i hlt
      obtain ⟨hbi, hbi2⟩ := hBs.out i hlt
      obtain rfl : x = ((b i : Nat) : Int) := by rw [hbi] at hx; exact (Option.some.inj hx).symm
      obtain ⟨b2, o2, y, rfl, _, hy, p2⟩ := hC2.out i hlt
      obtain ⟨hmi, hmi2⟩ := hMs.out i hlt
      obtain rfl : y = ((mov ms i : Nat) : Int) := by rw [hmi] at hy; exact (Option.some.inj hy).symm
      have hMoi := Lib.hid (hMo.out i)
      have hNoi := Lib.hid (fun k => hNo.out i k hlt)
      have hApi : Hid (∀ k, apart2 b (mov ms) P i k = (decide (mov ms k ≤ (b i - b k) % P) && decide (mov ms i + (b i - b k) % P ≤ P))) := Lib.hid fun k => rfl
      clear hx hy hbi hmi
      generalize hbb : b i = bi at *
      generalize hmm : mov ms i = mi at *
      clear hbb hmm
      have hin1 : (i : Int) < (n : Int) := by omega
      go_wp2_with fail
      go_loopw [19] (fun kv wr => ∃ k : Nat, k ≤ i ∧ kv = .int .i64 k ∧ Hid (∀ z, z < k → apart2 b (mov ms) P i z = true) ∧ w = wr) (fun kv _ => i - (intOf kv).toNat)
      case atStart => exact ⟨0, Nat.zero_le _, rfl, Lib.hid (fun z hz => by omega), rfl⟩
      case round =>
        obtain ⟨k, hk, rfl, hAk, rfl⟩ := hrel
        by_cases hlk : k < i
        · obtain ⟨b3, o3, x3, hbo, _, hx3, p3⟩ := hC1.out k (by omega)
          injection hbo with hbo
          injection hbo with g1 g2 _
          subst g1 g2
          obtain ⟨hbk, hbk2⟩ := hBs.out k (by omega)
          obtain rfl : x3 = ((b k : Nat) : Int) := by rw [hbk] at hx3; exact (Option.some.inj hx3).symm
          obtain ⟨b4, o4, x4, hbo4, _, hx4, p4⟩ := hC2.out k (by omega)
          injection hbo4 with hbo4
          injection hbo4 with g1 g2 _
          subst g1 g2
          obtain ⟨hmk, hmk2⟩ := hMs.out k (by omega)
          obtain rfl : x4 = ((mov ms k : Nat) : Int) := by rw [hmk] at hx4; exact (Option.some.inj hx4).symm
          have hle := hMoi.out k (by omega)
          have hR := remainderOf_wide ((bi : Int) - ((b k : Nat) : Int)) (P : Int)
          rw [remG_nat hle] at hR
          have hRh := Lib.hid (fun w' => hR w' (by omega) (by omega))
          have hdl := Nat.mod_lt (bi - b k) (show 0 < P by omega)
          have hAp := hApi.out k
          have hw1 : IntKind.i64.wrap ((bi : Int) - ((b k : Nat) : Int)) = (bi : Int) - ((b k : Nat) : Int) := IntWalk.i64_in _ (by omega)
          have hNk := Lib.hid (hNoi.out k hlk)
          have hAk2 : Hid (apart2 b (mov ms) P i k = true → ∀ z, z < k + 1 → apart2 b (mov ms) P i z = true) := Lib.hid fun hq z hz => by
            by_cases e : z = k
            · subst e; exact hq
            · exact hAk.out z (by omega)
          have hkn1 : (k : Int) < (n : Int) := by omega
          clear hx3 hx4 hbk hmk hR hle
          generalize (bi - b k) % P = d at *
          generalize b k = bk at *
          generalize mov ms k = mk at *
          have hw2 : IntKind.i64.wrap ((P : Int) - (d : Int)) = (P : Int) - (d : Int) := IntWalk.i64_in _ (by omega)
          by_cases c1 : mk ≤ d
          · have d1 : decide ((d : Int) < (mk : Int)) = false := decide_eq_false (by omega)
            have dn1 : decide (d < mk) = false := decide_eq_false (by omega)
            by_cases c2 : mi + d ≤ P
            · have d2 : decide ((P : Int) - (d : Int) < (mi : Int)) = false := decide_eq_false (by omega)
              have hAk3 := Lib.hid (hAk2.out (by rw [hAp, decide_eq_true c1, decide_eq_true c2]; rfl))
              clear hAp hNk hAk2 c1 c2
              go_wp2_with (go_at_call 75; (with_reducible refine (hRh.out _).mono ?_); rintro e w' ⟨rfl, rfl⟩)
              go_roundw
              case rel => exact ⟨k + 1, by omega, by go_num, hAk3, by trivial⟩
              case measure => simp [intOf]; omega
            · have d2 : decide ((P : Int) - (d : Int) < (mi : Int)) = true := decide_eq_true (by omega)
              have hF := Lib.hid (hNk.out (by rw [hAp, decide_eq_false c2, Bool.and_false]))
              clear hAp hNk hAk2 c1 c2
              go_wp2_with (go_at_call 75; (with_reducible refine (hRh.out _).mono ?_); rintro e w' ⟨rfl, rfl⟩)
              go_ret
              exact ⟨ret_bool (by rw [hF.out]), rfl⟩
          · have d1 : decide ((d : Int) < (mk : Int)) = true := decide_eq_true (by omega)
            have dn1 : decide (d < mk) = true := decide_eq_true (by omega)
            have hF := Lib.hid (hNk.out (by rw [hAp, decide_eq_false c1, Bool.false_and]))
            clear hAp hNk hAk2 c1
            go_wp2_with (go_at_call 75; (with_reducible refine (hRh.out _).mono ?_); rintro e w' ⟨rfl, rfl⟩)
            go_ret
            exact ⟨ret_bool (by rw [hF.out]), rfl⟩
        · obtain rfl : i = k := by omega
          have hA2 : Hid (∀ j k, j < i + 1 → k < j → apart2 b (mov ms) P j k = true) := Lib.hid fun j z hj hz => by
            by_cases e : j = i
            · subst e; exact hAk.out z hz
            · exact hA.out j z (by omega) hz
          go_wp2_with fail
          go_roundw
          case rel => exact ⟨i + 1, by omega, by go_num, hA2, by trivial⟩
          case measure => simp [intOf]; omega
    · obtain rfl : n = i := by omega
      have hF := Lib.hid (hYes.out hA.out)
      go_wp2_with fail
      go_ret
      exact ⟨ret_bool (by rw [hF.out]), rfl⟩
end Go.Proofs.Ythliapjnfcahlaa
