/- The contract of the laws' sameBytes. -/
import Derived.Test.YtfgkodgdoplpbabRows
import Derived.Test.YtfgkodgdoplpbabMem
namespace Go.Proofs.Ytfgkodgdoplpbab
open Go.RowKit

set_option maxHeartbeats 400000 in
theorem same_bytes (a b : Option Addr) (n m c c' B B' : Nat) (bs : List UInt8) (w : World) (h : BytesAt w B a n bs) (h' : BytesAt w B' b m bs) :
    Calls Try.prog 12 #[.slice a n c, .slice b m c'] w fun e w' => e = .returned (.bool true) ∧ w = w' := by
  have h1 := conv_bytes (P := Try.prog) h 22 5 9 c Try.underlying22 Try.underlying5 Try.underlying9
  have h2 := conv_bytes (P := Try.prog) h' 22 5 9 c' Try.underlying22 Try.underlying5 Try.underlying9
  go_enter Try.func12, Try.ntmps12
  go_wp2
  go_ret
  exact ⟨by simp, rfl⟩
end Go.Proofs.Ytfgkodgdoplpbab
