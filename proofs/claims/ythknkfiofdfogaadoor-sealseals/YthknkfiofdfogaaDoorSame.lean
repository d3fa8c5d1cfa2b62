/- The contract of the laws' sameBytes. -/
import Derived.Test.YthknkfiofdfogaaDoorRows
import Derived.Test.YthknkfiofdfogaaDoorMem
namespace Go.Proofs.YthknkfiofdfogaaDoor
open Go.RowKit

set_option maxHeartbeats 400000 in
theorem same_bytes (a b : Option Addr) (n m c c' B B' : Nat) (bs : List UInt8) (w : World) (h : BytesAt w B a n bs) (h' : BytesAt w B' b m bs) :
    Calls Tryd.prog 11 #[.slice a n c, .slice b m c'] w fun e w' => e = .returned (.bool true) ∧ w = w' := by
  have h1 := conv_bytes (P := Tryd.prog) h 22 5 9 c Tryd.underlying22 Tryd.underlying5 Tryd.underlying9
  have h2 := conv_bytes (P := Tryd.prog) h' 22 5 9 c' Tryd.underlying22 Tryd.underlying5 Tryd.underlying9
  go_enter Tryd.func11, Tryd.ntmps11
  go_wp2
  go_ret
  exact ⟨by simp, rfl⟩
end Go.Proofs.YthknkfiofdfogaaDoor
