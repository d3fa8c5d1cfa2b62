/- The contract of the laws' helper picked. -/
import Derived.Test.YtldfamdjdkaloaaRows
import Derived.Test.YtldfamdjdkaloaaMem
namespace Go.Proofs.Ytldfamdjdkaloaa
open Go.RowKit

/-- Which one a raw number picks out of m. -/
def pick (n : Int) (m : Nat) : Nat := (if n < 0 then -(n + 1) else n).toNat % m
theorem pick_lt (n : Int) (m : Nat) (h : 0 < m) : pick n m < m := Nat.mod_lt _ h

set_option maxHeartbeats 400000 in
theorem keep_picked (n : Int) (m : Nat) (w : World) (h0 : -9223372036854775808 ≤ n) (h1 : n ≤ 9223372036854775807) (hm : 0 < m) (hm2 : m ≤ 9223372036854775807) :
    Calls Try.prog 54 #[.int .i64 n, .int .i64 (m : Int)] w fun e w' => e = .returned (.int .i64 (pick n m : Int)) ∧ w = w' := by
  by_cases hn : n < 0
  · have Hp := Lib.hid (show (pick n m : Int) = (-(n + 1)) % (m : Int) by unfold pick; rw [if_pos hn, Int.natCast_emod, Int.toNat_of_nonneg (by omega)])
    have ht : (-(n + 1)).tmod (m : Int) = (-(n + 1)) % (m : Int) := Int.tmod_eq_emod_of_nonneg (by omega)
    go_enter Try.func54, Try.ntmps54
    go_wp2
    go_ret
    exact ⟨by rw [Hp.out]; rfl, rfl⟩
  · have Hp := Lib.hid (show (pick n m : Int) = n % (m : Int) by unfold pick; rw [if_neg hn, Int.natCast_emod, Int.toNat_of_nonneg (by omega)])
    have ht : n.tmod (m : Int) = n % (m : Int) := Int.tmod_eq_emod_of_nonneg (by omega)
    go_enter Try.func54, Try.ntmps54
    go_wp2
    go_ret
    exact ⟨by rw [Hp.out]; rfl, rfl⟩
end Go.Proofs.Ytldfamdjdkaloaa
