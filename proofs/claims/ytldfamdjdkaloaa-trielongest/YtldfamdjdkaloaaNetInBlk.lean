/- A network that lies in a block, known whole. -/
import Derived.Test.YtldfamdjdkaloaaNetMem
namespace Go.Proofs.Ytldfamdjdkaloaa
open Go.RowKit

/-- A network lies in a block. -/
def NetIn (w : World) (g : Nat) (a : Nat) (b : Int) : Prop := w.heap[g]? = some (.cells #[.int .u32 (a : Int), .int .i64 b] 28 (0, 0))
theorem NetIn.lt {w : World} {g a : Nat} {b : Int} (h : NetIn w g a b) : g < w.heap.size := by
  by_cases hc : g < w.heap.size
  · exact hc
  · unfold NetIn at h; rw [Array.getElem?_eq_none (by omega)] at h; cases h
theorem NetIn.below {w w' : World} {g a : Nat} {b : Int} (h : NetIn w g a b) (hb : Below w.heap.size w w') : NetIn w' g a b := (hb.block g h.lt).trans h
theorem NetIn.own {w : World} {g a : Nat} {b : Int} (h : NetIn w g a b) : w.ownsRow 0 28 1 (.slice (some ⟨g, 0, none⟩) 2 2) 2 [.int .u32 (a : Int), .int .i64 b] := own_two h (Nat.zero_le _)
theorem NetIn.set {w : World} {g a : Nat} {b : Int} (h : NetIn w g a b) (a' : Nat) (b' : Int) : NetIn ((w.setCell ⟨g, 0, none⟩ (.int .u32 (a' : Int))).setCell ⟨g, 1, none⟩ (.int .i64 b')) g a' b' := two_block (two_set h.own _ _)
theorem NetIn.other {w : World} {g a k : Nat} {b : Int} (h : NetIn w g a b) (hk : k ≠ g) (x y : Value) : NetIn ((w.setCell ⟨k, 0, none⟩ x).setCell ⟨k, 1, none⟩ y) g a b := by
  unfold NetIn at *
  rw [heap_setCell_other _ _ _ _ (by simpa using hk.symm), heap_setCell_other _ _ _ _ (by simpa using hk.symm)]
  exact h
end Go.Proofs.Ytldfamdjdkaloaa
