/- The landed code's table of kinds. -/
import Derived.Test.YthlagpmacnijfaaDoorCodeTabs
import Derived.Test.YthlagpmacnijfaaDoorBatchPlain
namespace Go.Proofs.YthlagpmacnijfaaDoor
open Go.RowKit

/-- The table of kinds is there: each kind's key and the number of its field. -/
def ShapeTab (w : World) : Prop := 0 < w.heap.size ∧ ∀ k, k < 11 → w.cell? ⟨0, k * 2, none⟩ = some (.string (Bt.nameOf k)) ∧ w.cell? ⟨0, k * 2 + 1, none⟩ = some (.int .i64 (Bt.fld (k : Int) : Int))
theorem ShapeTab.below {w w' : World} (h : ShapeTab w) (hb : Below w.heap.size w w') : ShapeTab w' :=
  ⟨Nat.lt_of_lt_of_le h.1 hb.size, fun k hk => by
    rw [hb.cell (p := ⟨0, k * 2, none⟩) h.1, hb.cell (p := ⟨0, k * 2 + 1, none⟩) h.1]
    exact h.2 k hk⟩
/-- What the landed code of chapter 12 reads of variables. -/
def BTabs (w : World) : Prop := CodeTabs w ∧ ShapeTab w
theorem BTabs.below {w w' : World} (h : BTabs w) (hb : Below w.heap.size w w') : BTabs w' := ⟨h.1.below hb, h.2.below hb⟩
/-- What the exact laws of chapter 12 read of variables. -/
def ATabs (w : World) : Prop := AllTabs w ∧ ShapeTab w
theorem ATabs.below {w w' : World} (h : ATabs w) (hb : Below w.heap.size w w') : ATabs w' := ⟨h.1.below hb, h.2.below hb⟩
theorem ATabs.code {w : World} (h : ATabs w) : BTabs w := ⟨⟨h.1.1, h.1.2.2⟩, h.2⟩
end Go.Proofs.YthlagpmacnijfaaDoor
