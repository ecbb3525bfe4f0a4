/- Contract: how many jobs a shop has. -/
import Derived.Test.YtnkbnkiaokkjhaaShopRows
namespace Go.Proofs.Ytnkbnkiaokkjhaa
open Go.RowKit Go.Lst

set_option maxHeartbeats 400000 in
theorem l04Count_any (a : Option Addr) (m n cap : Nat) (w : World) (hm : 1 ≤ m) (hn : n * m ≤ 192) :
    Calls Try.prog 30 #[.slice a (n * m) cap, .int .i64 m] w fun e w' => e = .returned (.int .i64 n) ∧ w = w' := by
  have hm0 : ((m : Int) == 0) = false := by rw [beq_eq_false_iff_ne]; omega
  have hd : ((n * m : Nat) : Int) / (m : Int) = n := by rw [← Int.natCast_ediv, Nat.mul_div_cancel n (by omega)]
  have hnL : n ≤ 192 := Nat.le_trans (Nat.le_mul_of_pos_right n hm) hn
  generalize n * m = L at *
  have hq : IntKind.i64.wrap ((L : Int) / (m : Int)) = n := by
    rw [hd]
    have : (n : Int) ≤ L := by rw [← hd]; exact Int.ediv_le_self _ (by omega)
    exact IntWalk.i64_in _ (by omega)
  go_enter Try.func30, Try.ntmps30
  go_wp2
  go_ret
  exact ⟨rfl, rfl⟩
end Go.Proofs.Ytnkbnkiaokkjhaa
