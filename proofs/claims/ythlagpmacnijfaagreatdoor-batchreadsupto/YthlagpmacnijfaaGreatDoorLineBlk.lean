/- A line's block: loaded whole, written whole. -/
import Derived.Test.YthlagpmacnijfaaGreatDoorLineMem
import Derived.Test.YthlagpmacnijfaaGreatDoorStructMem
namespace Go.Proofs.YthlagpmacnijfaaGreatDoor
open Go.RowKit

theorem load_line {w : World} {g : Nat} {xs : List Value} (R : Blk w g 23 xs) (h : xs.length = 2) : (loadVar 23 ⟨g, 0, none⟩).run Tryz.prog w = .ok (.agg xs.toArray) w :=
  run_loadVar_row (P := Tryz.prog) w g 23 23 xs.toArray (0, 0) _ R Tryz.underlying23 rfl (by rw [show (Tryz.prog.info? 23).map (·.size) = some 2 by kernel_rfl]; simp [h])
theorem Blk.set2 {w : World} {g : Nat} {t : TypeId} {x0 x1 : Value} (h : Blk w g t [x0, x1]) (y0 y1 : Value) : Blk ((w.setCell ⟨g, 0, none⟩ y0).setCell ⟨g, 1, none⟩ y1) g t [y0, y1] := by
  have h2 : 2 ≤ maxLen := by decide
  exact (h.set h2 0 y0).set h2 1 y1
end Go.Proofs.YthlagpmacnijfaaGreatDoor
