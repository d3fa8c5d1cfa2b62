/- The contract of the reference's zeros. -/
import Derived.Test.YtjdflnnpamjjcaaDoorBatchBits
import Derived.Test.YtjdflnnpamjjcaaDoorShelfRepeat
namespace Go.Proofs.YtjdflnnpamjjcaaDoor
open Go.RowKit

theorem ref_zeros (w : World) : Calls Tryd.prog 15 #[] w fun e w' => e = .returned (.string Bt.zeros) ∧ Below w.heap.size w w' := by
  have H := Lib.hid (Tryd.strings_Repeat ⟨#[48]⟩ 64 w (by decide) (by decide))
  go_enter Tryd.func15, Tryd.ntmps15
  go_wp2_with fail
  refine H.out.mono ?_
  rintro e w1 ⟨rfl, hb⟩
  go_wp2
  go_ret
  exact ⟨rfl, hb⟩
end Go.Proofs.YtjdflnnpamjjcaaDoor
