/- Pure facts: delays that are spread over rules. -/
import Derived.Test.YtnmecfibfajbnaaBack
import Derived.Test.YtnmecfibfajbnaaSettle
namespace Go.Proofs.Ytnmecfibfajbnaa
open Go.RowKit Go.Lst

def rF (xs : List RuleD) (i : Nat) : Nat := match xs[i]? with | some x => x.From.toNat | none => 0
def rT (xs : List RuleD) (i : Nat) : Nat := match xs[i]? with | some x => x.To.toNat | none => 0
def rD (xs : List RuleD) (i : Nat) : Int := match xs[i]? with | some x => x.Least - x.Most | none => 0
theorem rF_at {xs : List RuleD} {i : Nat} {x : RuleD} (h : xs[i]? = some x) : rF xs i = x.From.toNat := by unfold rF; rw [h]
theorem rT_at {xs : List RuleD} {i : Nat} {x : RuleD} (h : xs[i]? = some x) : rT xs i = x.To.toNat := by unfold rT; rw [h]
theorem rD_at {xs : List RuleD} {i : Nat} {x : RuleD} (h : xs[i]? = some x) : rD xs i = x.Least - x.Most := by unfold rD; rw [h]
def goBack (xs : List RuleD) : Bool := xs.any fun x => decide (x.To < x.From)
def canSpread (e : Int) (xs : List RuleD) (ls : List Int) : Bool := areRules e 60 xs && !goBack xs && decide ((ls.length : Int) = e) && allIn ls 0 1000
def sprAt (xs : List RuleD) (ls : List Int) : Nat → Int := spr (rF xs) (rT xs) (rD xs) xs.length (fun v => ls.getD v 0) ls.length
def sprRes (e : Int) (xs : List RuleD) (ls : List Int) : List Int := if canSpread e xs ls then fillI (sprAt xs ls) ls.length else []
theorem sprRes_length (e : Int) (xs : List RuleD) (ls : List Int) : (sprRes e xs ls).length ≤ 1048576 := by
  unfold sprRes
  split
  · rename_i h
    simp only [canSpread, Bool.and_eq_true, decide_eq_true_eq] at h
    obtain ⟨⟨a1, a2⟩, _⟩ := areRules_of h.1.1.1
    rw [fillI_length]; omega
  · exact Nat.zero_le _
/-- What the walks ask of rules that go forward. -/
theorem spread_facts {e : Int} {xs : List RuleD} {ls : List Int} (h : canSpread e xs ls = true) : areRules e 60 xs = true ∧ goBack xs = false ∧ (ls.length : Int) = e ∧ allIn ls 0 1000 = true ∧ 1 ≤ ls.length ∧ ls.length ≤ 12 ∧ xs.length ≤ 32 ∧
    (∀ (i : Nat) (x : RuleD), xs[i]? = some x → (0 ≤ x.From ∧ x.From < x.To ∧ x.To < e) ∧ x.Least ≤ x.Most ∧ 0 ≤ x.Least ∧ x.Most ≤ 118) ∧ (∀ v, 0 ≤ ls.getD v 0 ∧ ls.getD v 0 ≤ 1000) := by
  simp only [canSpread, Bool.and_eq_true, decide_eq_true_eq, Bool.not_eq_true'] at h
  obtain ⟨⟨⟨h1, h2⟩, h3⟩, h4⟩ := h
  obtain ⟨⟨a1, a2⟩, _, a3, hok⟩ := areRules_of h1
  refine ⟨h1, h2, h3, h4, by omega, by omega, a3, fun i x hx => ?_, fun v => ?_⟩
  · have k := okRule_of (hok i x hx)
    have nb : ¬ x.To < x.From := fun hb => by
      have : goBack xs = true := List.any_eq_true.2 ⟨x, List.mem_of_getElem? hx, decide_eq_true hb⟩
      rw [h2] at this; cases this
    omega
  · by_cases hv : v < ls.length
    · have := allIn_of h4 (show ls[v]? = some (ls.getD v 0) by rw [List.getElem?_eq_getElem hv, List.getD_eq_getElem?_getD, List.getElem?_eq_getElem hv]; rfl)
      exact this
    · rw [List.getD_eq_getElem?_getD, List.getElem?_eq_none (by omega)]; decide
theorem list_fill (ls : List Int) (n : Nat) (h : ls.length ≤ n) : ls ++ List.replicate (n - ls.length) 0 = fillI (fun v => ls.getD v 0) n := by
  apply List.ext_getElem?
  intro z
  by_cases hz : z < n
  · rw [fillI_get hz, List.getD_eq_getElem?_getD]
    by_cases h1 : z < ls.length
    · rw [List.getElem?_append_left h1, List.getElem?_eq_getElem h1]; rfl
    · rw [List.getElem?_append_right (by omega), List.getElem?_replicate, if_pos (by omega), List.getElem?_eq_none (by omega)]; rfl
  · rw [List.getElem?_eq_none (by rw [List.length_append, List.length_replicate]; omega), List.getElem?_eq_none (by rw [fillI_length]; omega)]
/-- The numbers that the program settles at: the model's. -/
theorem settled_spread {e : Int} {xs : List RuleD} {ls : List Int} (hq : canSpread e xs ls = true) (B : Nat) (v1 : Value) (b2 cap2 : Nat) (w : World) (h1 : LstI B w v1 ls) (hB : B ≤ w.heap.size) (hb2 : b2 < w.heap.size)
    (hc2 : ∀ (i : Nat) (x : RuleD), xs[i]? = some x → w.cell? ⟨b2, i * 4, none⟩ = some (.int .i64 x.From) ∧ w.cell? ⟨b2, i * 4 + 1, none⟩ = some (.int .i64 x.To) ∧ w.cell? ⟨b2, i * 4 + 2, none⟩ = some (.int .i64 (x.Least - x.Most)) ∧ ∃ z, w.cell? ⟨b2, i * 4 + 3, none⟩ = some (.int .i64 z)) :
    Calls Try.prog 43 #[v1, .slice (some ⟨b2, 0, none⟩) xs.length cap2] w fun e' w' => ∃ v', e' = .returned v' ∧ w'.ownsRow w.heap.size 2 1 v' ls.length ((fillI (sprAt xs ls) ls.length).map (Value.int .i64)) ∧ Below w.heap.size w w' := by
  obtain ⟨_, _, hl, _, n1, n12, q32, hx, hv⟩ := spread_facts hq
  have hat : ∀ i, i < xs.length → ∃ x, xs[i]? = some x ∧ ((rF xs i : Nat) : Int) = x.From ∧ ((rT xs i : Nat) : Int) = x.To ∧ rD xs i = x.Least - x.Most ∧ rF xs i < rT xs i ∧ rT xs i < ls.length ∧ -200 ≤ rD xs i ∧ rD xs i ≤ 0 := fun i hi => by
    have h := hx i xs[i] (List.getElem?_eq_getElem hi)
    refine ⟨xs[i], List.getElem?_eq_getElem hi, ?_⟩
    rw [rF_at (List.getElem?_eq_getElem hi), rT_at (List.getElem?_eq_getElem hi), rD_at (List.getElem?_eq_getElem hi)]
    omega
  have hle : ∀ v, sprAt xs ls v ≤ 1000 := spr_le (X := fun _ => 1000) (fun v => (hv v).2) (fun i hi => by obtain ⟨_, _, _, _, _, _, _, _, h⟩ := hat i hi; show (1000 : Int) + _ ≤ 1000; omega) ls.length
  exact settled_any B v1 ls b2 xs.length cap2 (rF xs) (rT xs) (rD xs) (fun v => ls.getD v 0) (sprAt xs ls) w h1 hB n1 n12 q32 hb2
    (fun i hi => by
      obtain ⟨x, e1, e2, e3, e4, _⟩ := hat i hi
      rw [e2, e3, e4]
      exact hc2 i x e1)
    (list_fill ls 12 n12) (spr_ge (rF xs) (rT xs) (rD xs) xs.length (fun v => ls.getD v 0) · ls.length)
    (fun i hi => by obtain ⟨_, _, _, _, _, h1, h2, _⟩ := hat i hi; exact spr_closed hi h1 h2)
    (fun i hi => by obtain ⟨_, _, _, _, _, h1, h2, _⟩ := hat i hi; omega)
    (fun v => by have a := (hv v).1; have b := hle v; exact ⟨by show (-1000000000 : Int) ≤ ls.getD v 0; omega, by omega⟩)
    (fun i hi => by obtain ⟨_, _, _, _, _, _, _, h1, h2⟩ := hat i hi; omega)
    (fun Y h1 h2 => spr_le h1 h2 ls.length)
end Go.Proofs.Ytnmecfibfajbnaa
