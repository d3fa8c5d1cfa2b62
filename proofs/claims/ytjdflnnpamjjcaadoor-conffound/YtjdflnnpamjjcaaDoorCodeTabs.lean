/- What the landed code reads of the library's variables. -/
import Derived.Test.YtjdflnnpamjjcaaDoorNumTabs
namespace Go.Proofs.YtjdflnnpamjjcaaDoor
open Go.RowKit

/-- What the landed code reads of the library's variables. -/
def CodeTabs (w : World) : Prop := PowTab w ∧ MaxTab w
theorem CodeTabs.below {w w' : World} (h : CodeTabs w) (hb : Below w.heap.size w w') : CodeTabs w' := ⟨h.1.below hb, h.2.below hb⟩
end Go.Proofs.YtjdflnnpamjjcaaDoor
