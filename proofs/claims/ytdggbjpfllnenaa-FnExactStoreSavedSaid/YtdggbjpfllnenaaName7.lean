/- Contracts of the names of what is saved, for every text (after XName, without floats): the model goes by bytes, the program by runes. -/
import Derived.Test.YtdggbjpfllnenaaBase
import Derived.Test.YtdggbjpfllnenaaTaskFns
import Derived.LoopTactic
import Derived.Outline
import Derived.WalkSmall
import Derived.Carry
namespace Go.Proofs.Ytdggbjpfllnenaa
open Go.RowKit Go.Lst

def letter (c : UInt8) : Bool := decide (97 ≤ c.toNat ∧ c.toNat ≤ 122)
def isName (s : ByteArray) : Bool := s.data.toList.all letter && decide (1 ≤ s.size ∧ s.size ≤ 8)

theorem takeN_snoc (s : ByteArray) (k : Nat) (h : k < s.size) : s.data.toList.take (k + 1) = s.data.toList.take k ++ [s[k]] := by
  rw [List.take_succ_eq_append_getElem (by simpa using h)]; rfl

theorem all_snoc (s : ByteArray) (k : Nat) (h : k < s.size) (ha : (s.data.toList.take k).all letter = true) (hl : letter s[k] = true) : (s.data.toList.take (k + 1)).all letter = true := by
  rw [takeN_snoc s k h, List.all_append, ha]; simp [hl]

theorem all_bad (s : ByteArray) (k : Nat) (h : k < s.size) (hl : letter s[k] = false) : s.data.toList.all letter = false := by
  rw [List.all_eq_false]
  exact ⟨s[k], by simp only [Array.mem_toList_iff]; exact Array.getElem_mem _, by rw [hl]; simp⟩

theorem frozen?_alloc_iter (w : World) (s : ByteArray) (p : Nat) (a : Addr) : (w.alloc (.stringIter s p)).frozen? a = w.frozen? a := by
  by_cases h : a.block = w.heap.size
  · have e1 : (w.alloc (.stringIter s p)).heap[a.block]? = some (.stringIter s p) := by rw [h]; exact (MapKept.heap_alloc w _).1
    have e2 : w.heap[a.block]? = none := by rw [h]; simp
    simp [World.frozen?, e1, e2]
  · exact World.frozen?_alloc_old _ _ _ h

theorem below_iter (w : World) (s : ByteArray) (p : Nat) : Below w.heap.size w (w.iter s p) := by
  show Below w.heap.size w (w.alloc (.stringIter s p))
  exact below_alloc (Below.refl _ _) _


set_option maxHeartbeats 400000 in
theorem l07Name_any (s : ByteArray) (hs : s.size ≤ maxLen) (w : World) :
    Calls Try.prog 21 #[.string s] w fun e w' => e = .returned (.bool (isName s)) ∧ w = w' := by
  unfold maxLen at hs
  go_enter Try.func21, Try.ntmps21
  go_wp2
  go_loop [3] (fun i => ∃ k : Nat, k ≤ s.size ∧ i = .int .i64 k ∧ (s.data.toList.take k).all letter = true) (fun i => s.size - (intOf i).toNat)
  case atStart => exact ⟨0, Nat.zero_le _, rfl, rfl⟩
  case round =>
    obtain ⟨k, hk, rfl, ha⟩ := hrel
    have hA := Lib.hid ha
    clear ha
    by_cases hlt : k < s.size
    · by_cases g1 : (s[k].toNat : Int) < 97
      · have hn := Lib.hid (show isName s = false by unfold isName; rw [all_bad s k hlt (by unfold letter; simp; omega)]; rfl)
        go_wp2
        go_ret
        rw [hn.out]
        exact ⟨rfl, rfl⟩
      · by_cases g2 : 122 < (s[k].toNat : Int)
        · have hn := Lib.hid (show isName s = false by unfold isName; rw [all_bad s k hlt (by unfold letter; simp; omega)]; rfl)
          go_wp2
          go_ret
          rw [hn.out]
          exact ⟨rfl, rfl⟩
        · have hS := Lib.hid (all_snoc s k hlt hA.out (by unfold letter; simp; omega))
          go_wp2
          go_round
          case rel => exact ⟨k + 1, by omega, by go_num, hS.out⟩
          case measure => simp [intOf]; omega
    · have hall : s.data.toList.take k = s.data.toList := List.take_of_length_le (by simp; omega)
      have hn := Lib.hid (show isName s = decide (1 ≤ s.size ∧ s.size ≤ 8) by unfold isName; rw [← hall, hA.out]; rfl)
      clear hall
      by_cases g1 : 1 ≤ s.size
      · by_cases g2 : s.size ≤ 8
        · go_wp2
          go_ret
          rw [hn.out]
          first | (simp; omega) | (simp [g1]; omega) | (simp [g1, g2]; done) | (simp [g1, g2]; omega)
        · have g3 : decide (s.size ≤ 8) = false := decide_eq_false g2
          go_wp2
          go_ret
          rw [hn.out]
          first | (simp; omega) | (simp [g1]; omega) | (simp [g1, g2]; done) | (simp [g1, g2]; omega)
      · have g3 : decide (1 ≤ s.size) = false := decide_eq_false g1
        go_wp2
        go_ret
        rw [hn.out]
        first | (simp; omega) | (simp [g1]; done) | (simp [g1]; omega)
set_option maxHeartbeats 400000 in
theorem isNameB_any (s : ByteArray) (hs : s.size ≤ maxLen) (w : World) :
    Calls Try.prog 26 #[.string s] w fun e w' => e = .returned (.bool (isName s)) ∧ Below w.heap.size w w' := by
  unfold maxLen at hs
  by_cases h1 : s.size < 1
  · have hn : isName s = false := by unfold isName; simp; omega
    rw [hn]
    clear hn
    go_enter Try.func26, Try.ntmps26
    go_wp2
    go_ret
    exact ⟨rfl, Below.refl _ _⟩
  · by_cases h2 : 8 < s.size
    · have hn : isName s = false := by unfold isName; simp; omega
      rw [hn]
      clear hn
      go_enter Try.func26, Try.ntmps26
      go_wp2
      go_ret
      exact ⟨rfl, Below.refl _ _⟩
    · go_enter Try.func26, Try.ntmps26
      go_wp2
      go_loopw [2] (fun v wr => v = .bool false ∧ ∃ k : Nat, k ≤ s.size ∧ wr = w.iter s k ∧ (s.data.toList.take k).all letter = true) (fun _ wr => s.size - wr.iterPos w.heap.size)
      case atStart => exact ⟨rfl, 0, Nat.zero_le _, rfl, rfl⟩
      case round =>
        obtain ⟨rfl, k, hk, rfl, ha⟩ := hrel
        have hA := Lib.hid ha
        clear ha
        have hG : Hid (∀ p, Below w.heap.size w (w.iter s p)) := Lib.hid fun p => below_iter w s p
        by_cases hlt : k < s.size
        · by_cases h128 : (s[k]'hlt).toNat < 128
          · have hnx : ∀ ty, _ := fun ty => run_next_ascii (P := Try.prog) w s k ty hlt h128
            by_cases g1 : (s[k].toNat : Int) < 97
            · have hn := Lib.hid (show isName s = false by unfold isName; rw [all_bad s k hlt (by unfold letter; simp; omega)]; rfl)
              go_wp2
              go_ret
              rw [hn.out]
              exact ⟨rfl, hG.out _⟩
            · by_cases g2 : 122 < (s[k].toNat : Int)
              · have hn := Lib.hid (show isName s = false by unfold isName; rw [all_bad s k hlt (by unfold letter; simp; omega)]; rfl)
                go_wp2
                go_ret
                rw [hn.out]
                exact ⟨rfl, hG.out _⟩
              · have hS := Lib.hid (all_snoc s k hlt hA.out (by unfold letter; simp; omega))
                go_wp2
                go_roundw
                case rel => exact ⟨rfl, k + 1, by omega, rfl, hS.out⟩
                case measure => simp; omega
          · have hnx : ∀ ty, _ := fun ty => run_next_any (P := Try.prog) w s k ty hlt
            have hd := (decode_high s k hlt (by omega)).1
            have hn := Lib.hid (show isName s = false by unfold isName; rw [all_bad s k hlt (by unfold letter; simp; omega)]; rfl)
            have g1 : 122 < ((Utf8.decode s k).1 : Int) := by omega
            have g2 : ¬ ((Utf8.decode s k).1 : Int) < 97 := by omega
            go_wp2
            go_ret
            rw [hn.out]
            exact ⟨rfl, hG.out _⟩
        · have hnx : ∀ ty, _ := fun ty => run_next_end (P := Try.prog) w s k ty hlt
          have hall : s.data.toList.take k = s.data.toList := List.take_of_length_le (by simp; omega)
          have hn := Lib.hid (show isName s = true by unfold isName; rw [← hall, hA.out]; simp; omega)
          clear hall
          go_wp2
          go_ret
          rw [hn.out]
          exact ⟨rfl, hG.out _⟩
end Go.Proofs.Ytdggbjpfllnenaa
