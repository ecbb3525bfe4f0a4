/- Contract: a row of some numbers that a text spells, the program's. Conditions: what LibAt says of Go's library. -/
import Derived.Test.YtpolhjkjgbfdhaaDoorLibAt
namespace Go.Proofs.YtpolhjkjgbfdhaaDoor
open Go.RowKit Go.Lst Go

def okRow (s : ByteArray) (n : Nat) : Bool := okRead s && decide ((valL s).length = n)
def rowL (s : ByteArray) (n : Nat) : List Int := if okRow s n then valL s else []
theorem rowL_no {s : ByteArray} {n : Nat} (h : okRow s n = false) : rowL s n = [] := by unfold rowL; rw [h]; rfl
theorem rowL_yes {s : ByteArray} {n : Nat} (h : okRow s n = true) : rowL s n = valL s ∧ (valL s).length = n := by
  unfold rowL
  rw [h]
  unfold okRow at h
  rw [Bool.and_eq_true, decide_eq_true_eq] at h
  exact ⟨rfl, h.2⟩
theorem row_openI {A e n : Nat} {w : World} {v : Value} {cs : List Value} (h : w.ownsRow A e 1 v n cs) : ∃ a c, v = .slice a n c ∧ n ≤ maxLen := by
  obtain ⟨_, h2⟩ := h
  rcases h2 with ⟨rfl, rfl⟩ | ⟨g, cap, cur, rfl, _, _, h3, h4, _⟩
  · exact ⟨_, _, rfl, Nat.zero_le _⟩
  · exact ⟨_, _, rfl, by omega⟩
set_option maxHeartbeats 2000000 in
set_option maxRecDepth 100000 in
theorem readRow_any (s : ByteArray) (hs : s.size ≤ 1048576) (m : Nat) (hm : m ≤ 64) (w : World) (hL : LibAt w) :
    Calls Tryd.prog 61 #[.string s, .int .i64 (m : Int)] w fun e w' => ReadPost (rowL s m) (okRow s m) w e w' := by
  have hI := Lib.hid (readList_any s hs w hL.1 hL.2.2 hL.2.1)
  have hNo := Lib.hid (fun h => rowL_no (s := s) (n := m) h)
  have hYes := Lib.hid (fun h => (rowL_yes (s := s) (n := m) h).1)
  cases hq : okRead s
  · have hR : Hid (okRow s m = false ∧ rowL s m = []) := Lib.hid (by
      have : okRow s m = false := by unfold okRow; rw [hq]; rfl
      exact ⟨this, rowL_no this⟩)
    rw [hq] at hI
    clear hq hL hNo hYes
    generalize okRow s m = Q at *
    generalize rowL s m = R at *
    generalize valL s = V at *
    go_enter Tryd.func61, Tryd.ntmps61
    go_wp2_with fail
    refine hI.out.mono ?_
    rintro e w1 ⟨v', rfl, ho, hb⟩
    have hB := Lib.hid hb
    clear hb ho hI
    go_wp2_with fail
    first | exact read_nil hR.out hB.out | (go_ret2; exact read_nil hR.out hB.out)
  · have hQ : Hid (okRow s m = decide ((valL s).length = m)) := Lib.hid (by unfold okRow; rw [hq]; rfl)
    rw [hq] at hI
    clear hq hL
    generalize okRow s m = Q at *
    generalize rowL s m = R at *
    generalize valL s = V at *
    generalize hn : V.length = n at *
    have hLn := Lib.hid hn
    clear hn
    by_cases he : n = m
    · have hq : Q = true := by rw [hQ.out]; exact decide_eq_true he
      have hr := Lib.hid (hYes.out hq)
      have hq2 := Lib.hid hq
      have hcmp : ((n : Int) == (m : Int)) = true := by simp [he]
      have hcm2 : ((n : Int) != (m : Int)) = false := by simp [he]
      have hmm := Lib.hid he
      clear hq he hYes hNo hQ
      go_enter Tryd.func61, Tryd.ntmps61
      go_wp2_with fail
      refine hI.out.mono ?_
      rintro e w1 ⟨v', rfl, ho, hb⟩
      rw [hLn.out] at ho
      obtain ⟨a, c, rfl, _⟩ := row_openI ho.1
      have hO := Lib.hid ho
      have hB := Lib.hid hb
      clear hb ho hI
      go_wp2_with fail
      first | exact ⟨_, by rw [hq2.out], by rw [hr.out, hLn.out]; exact hO.out, hB.out⟩ | (go_ret2; exact ⟨_, by rw [hq2.out]; rfl, by rw [hr.out, hLn.out]; exact hO.out, hB.out⟩)
    · have hq : Q = false := by rw [hQ.out]; exact decide_eq_false he
      have hR := Lib.hid (And.intro hq (hNo.out hq))
      have hcmp : ((n : Int) == (m : Int)) = false := by simp; omega
      have hcm2 : ((n : Int) != (m : Int)) = true := by simp; omega
      clear hq he hYes hNo hQ
      go_enter Tryd.func61, Tryd.ntmps61
      go_wp2_with fail
      refine hI.out.mono ?_
      rintro e w1 ⟨v', rfl, ho, hb⟩
      rw [hLn.out] at ho
      obtain ⟨a, c, rfl, _⟩ := row_openI ho.1
      have hB := Lib.hid hb
      clear hb ho hI
      go_wp2_with fail
      first | exact read_nil hR.out hB.out | (go_ret2; exact read_nil hR.out hB.out)
end Go.Proofs.YtpolhjkjgbfdhaaDoor
