/- The contract of the laws' sameBytes at any two slices. -/
import Derived.Test.YtfgkodgdoplpbabRows
import Derived.Test.YtfgkodgdoplpbabMem
namespace Go.Proofs.Ytfgkodgdoplpbab
open Go.RowKit

theorem strOf_beq (a b : List UInt8) : ((strOf a).toList == (strOf b).toList) = decide (a = b) := by
  rw [ByteArray.toList_eq, ByteArray.toList_eq, strOf_list, strOf_list]
  by_cases h : a = b
  · subst h; simp
  · rw [decide_eq_false h]; simpa using h

set_option maxHeartbeats 400000 in
theorem same_any (a b : Option Addr) (n m c c' B B' : Nat) (xs ys : List UInt8) (w : World) (h : BytesAt w B a n xs) (h' : BytesAt w B' b m ys) :
    Calls Try.prog 12 #[.slice a n c, .slice b m c'] w fun e w' => e = .returned (.bool (decide (xs = ys))) ∧ w = w' := by
  have h1 := conv_bytes (P := Try.prog) h 22 5 9 c Try.underlying22 Try.underlying5 Try.underlying9
  have h2 := conv_bytes (P := Try.prog) h' 22 5 9 c' Try.underlying22 Try.underlying5 Try.underlying9
  have Hq := Lib.hid (strOf_beq xs ys)
  go_enter Try.func12, Try.ntmps12
  go_wp2
  go_ret
  exact ⟨by rw [← Hq.out]; rfl, rfl⟩
end Go.Proofs.Ytfgkodgdoplpbab
