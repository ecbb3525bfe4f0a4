/- Contracts: how long it takes between two trips (moveBy and its closure), and which trips can follow which ones (followBy). -/
import Derived.Test.YtmnogipmpojoaaaMoves
import Derived.Test.YtmnogipmpojoaaaTrips
import Derived.Test.YtmnogipmpojoaaaNear
import Derived.Deep.MidRow
import Derived.Deep.WholeRow
namespace Go
section
variable {P : Program} (w : World) (a : Addr) (m : Mode)
@[go_sem] theorem run_store_func (f : Fn) (b c : Array Value) : (store a (.func f b c) m).run P w = stored P w a (.func f b c) m := run_store P w a _ m rfl
end
end Go
namespace Go.Proofs.Ytmnogipmpojoaaa
open Go.RowKit Go.Lst

def tabOf (ms : List Int) : Array Value := (ms.map (Value.int .i64)).toArray
theorem tabOf_size (ms : List Int) : (tabOf ms).size = ms.length := by simp [tabOf]
theorem tabOf_at {ms : List Int} {k : Nat} (hk : k < ms.length) : (tabOf ms)[k]? = some (.int .i64 (ms.getD k 0)) := by
  simp [tabOf, List.getD_eq_getElem?_getD, hk]
theorem arrayAt64_run (b o c : Nat) (w : World) : (Instr.arrayAt 57 (.slice (some ⟨b, o, none⟩) 64 c)).run Try.prog w = .ok (.pointer (some ⟨b, o, none⟩)) w := by
  simp [Instr.arrayAt, go_sem, Try.underlying57]
theorem info64 : (Try.prog.info? 57).map (fun i => (i.zero, i.size)) = some (some (.agg (Array.replicate 64 (.int .i64 0))), 64) := by kernel_rfl
set_option maxHeartbeats 2000000 in
set_option maxRecDepth 100000 in
theorem moveBy_any (B : Nat) (v : Value) (ms : List Int) (w : World) (h : LstI B w v ms) (hl : ms.length = 64) :
    Calls Try.prog 23 #[v] w fun e w' => e = .returned (.func (.func 33) #[] #[.pointer (some ⟨w.heap.size, 0, none⟩)]) ∧ w' = w.alloc (.cells (tabOf ms) 57) := by
  obtain ⟨a, cap, rfl, _, hcap, hcapl, hC⟩ := h.at_
  obtain ⟨b, o, x0, rfl, hb, _, _⟩ := hC 0 (by omega)
  have hc : Hid (w.rangeAt b o (ms.map (Value.int .i64))) := Lib.hid fun k v hv => by
    have hk : k < ms.length := by have := (List.getElem?_eq_some_iff.1 hv).1; simpa using this
    obtain ⟨b', o', x, he, _, hx, p⟩ := hC k hk
    cases he
    rw [List.getElem?_map, hx] at hv
    cases hv
    exact p
  have hz := zero_of_info info64
  have hsz := hz.2
  have hz1 := hz.1
  have hone : (tabOf ms).all (·.oneCell') = true := by simp [tabOf, Value.oneCell']
  have hsc := run_storeCells_new (P := Try.prog) w 57 (Array.replicate 64 (.int .i64 0)) (tabOf ms) (by rw [hsz, tabOf_size, hl]) (by rw [tabOf_size, hl]; simp) hone
  rw [show (tabOf ms).toList = ms.map (Value.int .i64) by simp [tabOf]] at hsc
  have hlen : (ms.map (Value.int .i64)).length = 64 := by rw [List.length_map]; exact hl
  have hsz2 := Lib.hid hsz
  have hcs : (ms.map (Value.int .i64)).toArray = tabOf ms := rfl
  have hi64 := Lib.hid (show (Try.prog.info? 57).map (·.size) = some (ms.map (Value.int .i64)).length by rw [hlen]; exact hsz2.out)
  have hu64 := Lib.hid Try.underlying57
  have hT := Lib.hid hcs
  rw [hl] at hcap ⊢
  rw [← hcs] at hsc ⊢
  clear hC h hl hz hsz hb hone hcs hsz2 hT
  generalize ms.map (Value.int .i64) = cl at *
  have har := fun w' => arrayAt64_run b o cap w'
  go_enter Try.func23, Try.ntmps23
  go_wp2_with (refine wpList_load_mid rfl 57 _ rfl b o rfl cl _ hc.out hu64.out rfl hi64.out ?_)
  go_ret
  exact ⟨rfl, rfl⟩
def tripAgg (x : TripD) : Value := .agg #[.int .i64 x.Start, .int .i64 x.End, .int .i64 x.From, .int .i64 x.To]
def moveOf (ms : List Int) (x y : TripD) : Int := ms.getD (x.To * 8 + y.From).toNat 0
set_option maxHeartbeats 2000000 in
theorem moveOf_any (g : Nat) (ms : List Int) (x y : TripD) (w : World) (hW : Whole w g 57 (tabOf ms)) (hl : ms.length = 64) (h1 : 0 ≤ x.To ∧ x.To ≤ 7) (h2 : 0 ≤ y.From ∧ y.From ≤ 7) :
    Calls Try.prog 33 #[.agg #[.int .i64 x.Start, .int .i64 x.End, .int .i64 x.From, .int .i64 x.To], .agg #[.int .i64 y.Start, .int .i64 y.End, .int .i64 y.From, .int .i64 y.To], .pointer (some ⟨g, 0, none⟩)] w fun e w' => e = .returned (.int .i64 (moveOf ms x y)) ∧ Below w.heap.size w w' := by
  unfold moveOf
  obtain ⟨xs, xe, xf, xt⟩ := x
  obtain ⟨ys, ye, yf, yt⟩ := y
  simp only at h1 h2 ⊢
  obtain ⟨a, rfl⟩ := Int.eq_ofNat_of_zero_le h1.1
  obtain ⟨c, rfl⟩ := Int.eq_ofNat_of_zero_le h2.1
  have t1 : ((a : Int) * 8 + (c : Int)).toNat = a * 8 + c := by omega
  have t2 : (0 : Int) ≤ (a : Int) * 8 + (c : Int) := by omega
  have t3 : (a : Int) * 8 + (c : Int) < 64 := by omega
  have hw1 : IntKind.i64.wrap ((a : Int) * 8) = (a : Int) * 8 := IntWalk.i64_in _ (by omega)
  have hw2 : IntKind.i64.wrap ((a : Int) * 8 + c) = (a : Int) * 8 + c := IntWalk.i64_in _ (by omega)
  have hc := ((hW.more (.cells #[.int .i64 xs, .int .i64 xe, .int .i64 xf, .int .i64 (a : Int)] 37)).more (.cells #[.int .i64 ys, .int .i64 ye, .int .i64 (c : Int), .int .i64 yt] 37)).at_ (tabOf_at (ms := ms) (k := a * 8 + c) (by omega))
  rw [t1]
  generalize ms.getD (a * 8 + c) 0 = z at *
  clear hW
  go_enter Try.func33, Try.ntmps33
  go_wp2_with fail
  go_ret
  exact ⟨rfl, below_alloc (below_alloc (Below.refl _ _) _) _⟩
set_option maxHeartbeats 2000000 in
theorem followBy_any (B : Nat) (v : Value) (ms : List Int) (w : World) (h : LstI B w v ms) (hl : ms.length = 64) :
    Calls Try.prog 22 #[v] w fun e w' => e = .returned (.func (.func 32) #[] #[.pointer (some ⟨w.heap.size + 1, 0, none⟩)]) ∧ w' = (w.alloc (.cells (tabOf ms) 57)).alloc (.cells #[.func (.func 33) #[] #[.pointer (some ⟨w.heap.size, 0, none⟩)]] 47) := by
  have hM := Lib.hid (moveBy_any B v ms w h hl)
  clear h hl
  generalize tabOf ms = tab at *
  go_enter Try.func22, Try.ntmps22
  go_wp2_with (go_at_call 23; (with_reducible refine (hM.out).mono ?_); rintro e w' ⟨rfl, rfl⟩)
  go_ret
  exact ⟨rfl, rfl⟩
def folT (ms : List Int) (x y : TripD) : Bool := decide (x.End + moveOf ms x y ≤ y.Start)
set_option maxHeartbeats 4000000 in
theorem follow_any (g : Nat) (ms : List Int) (x y : TripD) (w : World) (hW : Whole w g 57 (tabOf ms)) (hg : w.cell? ⟨g + 1, 0, none⟩ = some (.func (.func 33) #[] #[.pointer (some ⟨g, 0, none⟩)])) (hl : ms.length = 64) (hm : 0 ≤ moveOf ms x y ∧ moveOf ms x y ≤ 1000) (h1 : 0 ≤ x.To ∧ x.To ≤ 7) (h2 : 0 ≤ y.From ∧ y.From ≤ 7) (h3 : 0 ≤ x.End ∧ x.End ≤ 10000) :
    Calls Try.prog 32 #[.agg #[.int .i64 x.Start, .int .i64 x.End, .int .i64 x.From, .int .i64 x.To], .agg #[.int .i64 y.Start, .int .i64 y.End, .int .i64 y.From, .int .i64 y.To], .pointer (some ⟨g + 1, 0, none⟩)] w fun e w' => e = .returned (.bool (folT ms x y)) ∧ Below w.heap.size w w' := by
  unfold folT
  have hMv := Lib.hid (fun w' (hb : Below w.heap.size w w') => moveOf_any g ms x y w' (hW.below hb hW.size) hl h1 h2)
  have hgl : g + 1 < w.heap.size := World.block_lt_of_cell? w _ hg
  generalize moveOf ms x y = z at *
  obtain ⟨xs, xe, xf, xt⟩ := x
  obtain ⟨ys, ye, yf, yt⟩ := y
  simp only at h3 hMv ⊢
  have hw1 : IntKind.i64.wrap (xe + z) = xe + z := IntWalk.i64_in _ (by omega)
  have hB2 : Below w.heap.size w ((w.alloc (.cells #[.int .i64 xs, .int .i64 xe, .int .i64 xf, .int .i64 xt] 37)).alloc (.cells #[.int .i64 ys, .int .i64 ye, .int .i64 yf, .int .i64 yt] 37)) := below_alloc (below_alloc (Below.refl _ _) _) _
  have hW1 : Whole ((w.alloc (.cells #[.int .i64 xs, .int .i64 xe, .int .i64 xf, .int .i64 xt] 37)).alloc (.cells #[.int .i64 ys, .int .i64 ye, .int .i64 yf, .int .i64 yt] 37)) w.heap.size 37 _ := (Whole.made w _ _ rfl).more _
  have hW2 : Whole ((w.alloc (.cells #[.int .i64 xs, .int .i64 xe, .int .i64 xf, .int .i64 xt] 37)).alloc (.cells #[.int .i64 ys, .int .i64 ye, .int .i64 yf, .int .i64 yt] 37)) (w.heap.size + 1) 37 _ := Whole.made _ _ _ (by simp)
  have hg2 := (hB2.cell (p := ⟨g + 1, 0, none⟩) hgl).trans hg
  have hsz : ((w.alloc (.cells #[.int .i64 xs, .int .i64 xe, .int .i64 xf, .int .i64 xt] 37)).alloc (.cells #[.int .i64 ys, .int .i64 ye, .int .i64 yf, .int .i64 yt] 37)).heap.size = w.heap.size + 2 := by simp
  clear hW hg h1 h2
  go_enter Try.func32, Try.ntmps32
  go_wp2_with fail
  generalize ((w.alloc (.cells #[.int .i64 xs, .int .i64 xe, .int .i64 xf, .int .i64 xt] 37)).alloc (.cells #[.int .i64 ys, .int .i64 ye, .int .i64 yf, .int .i64 yt] 37)) = W2 at *
  have hR1 := Lib.hid (fun p : Near W2.heap.size W2 => hMv.out p.at_ (hB2.trans (p.below.mono (by omega))))
  have m0 := near_cell (hW1.at_ (i := 0) rfl)
  have m1 := near_cell (hW1.at_ (i := 1) rfl)
  have m2 := near_cell (hW1.at_ (i := 2) rfl)
  have m3 := near_cell (hW1.at_ (i := 3) rfl)
  have k0 := near_cell (hW2.at_ (i := 0) rfl)
  have k1 := near_cell (hW2.at_ (i := 1) rfl)
  have k2 := near_cell (hW2.at_ (i := 2) rfl)
  have k3 := near_cell (hW2.at_ (i := 3) rfl)
  have n0 := near_cell hg2
  clear hMv hW1 hW2 hg2
  refine wp_region_near (by kernel_rfl) (by kernel_rfl) ?_
  repeat (go_big_quiet_step (first | (go_at_call 33; with_reducible exact near_of (Nat.le_refl _) (hR1.out _))))
  refine wpQuiet_nil ?_
  rintro _ ⟨pq, rfl⟩
  have hBq := Lib.hid (hB2.trans (pq.below.mono (by omega)))
  go_wp2_with fail
  go_ret
  exact ⟨rfl, hBq.out⟩
end Go.Proofs.Ytmnogipmpojoaaa
