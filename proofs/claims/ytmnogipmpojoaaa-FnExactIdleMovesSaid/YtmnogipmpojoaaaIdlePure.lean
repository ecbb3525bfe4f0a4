/- How long vehicles move without trips, as functions on lists. -/
import Derived.Test.YtmnogipmpojoaaaFollowSpec
import Derived.Test.YtmnogipmpojoaaaLongest
namespace Go.Proofs.Ytmnogipmpojoaaa
open Go.RowKit Go.Lst Srt

/-- The last place ahead of n at which u stands, -1 for none. -/
def prevTo (V : Nat → Int) (u : Int) : Nat → Int
  | 0 => -1
  | a + 1 => if V a = u then (a : Int) else prevTo V u a
theorem prevTo_in (V : Nat → Int) (u : Int) : ∀ n, -1 ≤ prevTo V u n ∧ prevTo V u n < n ∧ (0 ≤ prevTo V u n → V (prevTo V u n).toNat = u)
  | 0 => by simp [prevTo]
  | a + 1 => by
    have ih := prevTo_in V u a
    unfold prevTo
    split
    · rename_i h
      refine ⟨by omega, by omega, fun _ => by rw [Int.toNat_natCast]; exact h⟩
    · exact ⟨ih.1, by omega, ih.2.2⟩
def idleOk (V : Nat → Int) (fol : Nat → Nat → Bool) : Nat → Bool
  | 0 => true
  | b + 1 => idleOk V fol b && (decide (prevTo V (V b) b < 0) || fol (prevTo V (V b) b).toNat b)
def idleSum (V : Nat → Int) (mv : Nat → Nat → Int) : Nat → Int
  | 0 => 0
  | b + 1 => idleSum V mv b + if prevTo V (V b) b < 0 then 0 else mv (prevTo V (V b) b).toNat b
theorem idleOk_no {V : Nat → Int} {fol : Nat → Nat → Bool} {k : Nat} (h : idleOk V fol k = false) : ∀ {n}, k ≤ n → idleOk V fol n = false := by
  intro n hn
  induction hn with
  | refl => exact h
  | step _ ih => unfold idleOk; rw [ih]; rfl
theorem idleSum_in {V : Nat → Int} {mv : Nat → Nat → Int} {n : Nat} (h : ∀ a b, a < n → b < n → 0 ≤ mv a b ∧ mv a b ≤ 1000) : ∀ k, k ≤ n → 0 ≤ idleSum V mv k ∧ idleSum V mv k ≤ 1000 * k
  | 0, _ => by simp [idleSum]
  | b + 1, hk => by
    have ih := idleSum_in (V := V) h b (by omega)
    have hp := prevTo_in V (V b) b
    have := h (prevTo V (V b) b).toNat b (by omega) (by omega)
    unfold idleSum
    split <;> omega
def startK (xs : List TripD) (x : Int) : Int := (xs.getD x.toNat default).Start
def startF (xs : List TripD) (k : Nat) : Nat := (Srt.insTo (ltK (startK xs)) xs.length k).toNat
theorem start_low (xs : List TripD) (k : Nat) (hk : k < xs.length) : Srt.insTo (ltK (startK xs)) xs.length k = (startF xs k : Int) ∧ startF xs k < xs.length := by
  have hr := (Srt.sorted_to (totK xs.length (startK xs)) xs.length).1
  obtain ⟨l, _, l2, e⟩ := hr.from' k (Nat.zero_le _) hk
  have e' : Srt.insTo (ltK (startK xs)) xs.length k = (l : Int) := e
  have e2 : startF xs k = l := by unfold startF; rw [e']; rfl
  exact ⟨by rw [e2]; exact e', by rw [e2]; exact l2⟩
def trAt (xs : List TripD) (k : Nat) : TripD := xs.getD (startF xs k) default
def vehAt (xs : List TripD) (vs : List Int) (k : Nat) : Int := vs.getD (startF xs k) 0
def idleCan (xs : List TripD) (ms vs : List Int) : Bool := areTrips xs && okMoves ms && decide (vs.length = xs.length) && allIn vs 0 23
def idleYes (xs : List TripD) (ms vs : List Int) : Bool := idleCan xs ms vs && idleOk (vehAt xs vs) (fun a b => folT ms (trAt xs a) (trAt xs b)) xs.length
def idleVal (xs : List TripD) (ms vs : List Int) : Int := if idleYes xs ms vs then idleSum (vehAt xs vs) (fun a b => moveOf ms (trAt xs a) (trAt xs b)) xs.length else 0
def IdlePost (xs : List TripD) (ms vs : List Int) (w : World) (e : Ending) (w' : World) : Prop := e = .returned (.tuple #[.int .i64 (idleVal xs ms vs), .bool (idleYes xs ms vs)]) ∧ Below w.heap.size w w'
theorem idle_no {xs : List TripD} {ms vs : List Int} {w w' : World} (h : idleYes xs ms vs = false) (hb : Below w.heap.size w w') : IdlePost xs ms vs w (.returned (.tuple #[.int .i64 0, .bool false])) w' := by
  refine ⟨?_, hb⟩
  unfold idleVal; rw [h]; rfl
theorem idle_yes {xs : List TripD} {ms vs : List Int} {w w' : World} (h : idleYes xs ms vs = true) (hb : Below w.heap.size w w') : IdlePost xs ms vs w (.returned (.tuple #[.int .i64 (idleSum (vehAt xs vs) (fun a b => moveOf ms (trAt xs a) (trAt xs b)) xs.length), .bool true])) w' := by
  refine ⟨?_, hb⟩
  unfold idleVal; rw [h]; rfl
end Go.Proofs.Ytmnogipmpojoaaa
