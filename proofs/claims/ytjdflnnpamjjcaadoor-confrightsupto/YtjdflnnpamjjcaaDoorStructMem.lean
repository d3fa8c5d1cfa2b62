/- Blocks of structs, known whole, of any type. -/
import Derived.Test.YtjdflnnpamjjcaaDoorRows
import Derived.Test.YtjdflnnpamjjcaaDoorMem
import Derived.Test.YtjdflnnpamjjcaaDoorMemG
import Derived.Deep.WholeRow
import Derived.BigRegion
import Derived.Laws.ResultCell
import Derived.Laws.Rows
namespace Go.Proofs.YtjdflnnpamjjcaaDoor
open Go.RowKit

/-- Block g holds just these cells of a type. -/
def Blk (w : World) (g : Nat) (t : TypeId) (xs : List Value) : Prop := w.heap[g]? = some (.cells xs.toArray t (0, 0))
theorem Blk.new (w : World) (t : TypeId) (xs : List Value) : Blk (w.alloc (.cells xs.toArray t)) w.heap.size t xs := heap_alloc_last w _
theorem Blk.lt {w : World} {g : Nat} {t : TypeId} {xs : List Value} (h : Blk w g t xs) : g < w.heap.size := (Array.getElem?_eq_some_iff.1 h).1
theorem Blk.below {w w' : World} {g B : Nat} {t : TypeId} {xs : List Value} (h : Blk w g t xs) (hb : Below B w w') (hg : g < B) : Blk w' g t xs := (hb.block g hg).trans h
theorem Blk.kept {w w' : World} {g : Nat} {t : TypeId} {xs : List Value} (h : Blk w g t xs) (hb : Below w.heap.size w w') : Blk w' g t xs := h.below hb h.lt
theorem Blk.cell {w : World} {g : Nat} {t : TypeId} {xs : List Value} (h : Blk w g t xs) (i : Nat) {u : Value} (hi : xs[i]? = some u) : w.cell? ⟨g, i, none⟩ = some u := by
  rw [cell_of_row _ _ i _ _ _ h, List.getElem?_toArray, hi]
theorem Blk.row {w : World} {g : Nat} {t : TypeId} {xs : List Value} (h : Blk w g t xs) (hm : xs.length ≤ maxLen) : w.ownsRow g t 1 (.slice (some ⟨g, 0, none⟩) xs.length xs.length) xs.length xs := own_block h (Nat.le_refl _) rfl hm
theorem Blk.frozen {w : World} {g : Nat} {t : TypeId} {xs : List Value} (h : Blk w g t xs) (hm : xs.length ≤ maxLen) (i : Nat) : w.frozen? ⟨g, i, none⟩ = false := (h.row hm).frozenAt i
theorem Blk.set {w : World} {g : Nat} {t : TypeId} {xs : List Value} (h : Blk w g t xs) (hm : xs.length ≤ maxLen) (i : Nat) (u : Value) : Blk (w.setCell ⟨g, i, none⟩ u) g t (xs.set i u) := by
  have := ((h.row hm).stored i u).1
  rw [show xs.length = (xs.set i u).length by simp] at this
  exact own_whole this
theorem Blk.other {w : World} {g k i : Nat} {t : TypeId} {xs : List Value} (h : Blk w g t xs) (hne : g ≠ k) (u : Value) : Blk (w.setCell ⟨k, i, none⟩ u) g t xs := by
  unfold Blk
  rw [heap_setCell_other _ _ _ _ hne]
  exact h
/-- A struct and something, out of the result's own cells. -/
theorem ret_cell {fn : Func} {w : World} {g : Nat} {t : TypeId} {xs : List Value} {p u : Nat} {v : Value} {tmps : Array Value} (hl : (loadVar t ⟨g, 0, none⟩).run Tryd.prog w = .ok (.agg xs.toArray) w)
    (h : fn.results = #[.cell p t, .tmp u]) (hp : tmps.getD p undef = .pointer (some ⟨g, 0, none⟩)) (hv : tmps.getD u undef = v) : (results fn tmps).run Tryd.prog w = .ok (.tuple #[.agg xs.toArray, v]) w := by
  rw [results_cell_tmp h, hp, hv]
  simp [asAddr, hl]
/-- A struct out of the result's own cells. -/
theorem ret_cell1 {fn : Func} {w : World} {g : Nat} {t : TypeId} {xs : List Value} {p : Nat} {tmps : Array Value} (hl : (loadVar t ⟨g, 0, none⟩).run Tryd.prog w = .ok (.agg xs.toArray) w)
    (h : fn.results = #[.cell p t]) (hp : tmps.getD p undef = .pointer (some ⟨g, 0, none⟩)) : (results fn tmps).run Tryd.prog w = .ok (.agg xs.toArray) w := by
  have hp' : tmps[p]?.getD undef = .pointer (some ⟨g, 0, none⟩) := by simpa using hp
  simp only [results, h]
  simp [hp', asAddr, hl]
/-- All five cells of a block written. -/
theorem Blk.set5 {w : World} {g : Nat} {t : TypeId} {x0 x1 x2 x3 x4 : Value} (h : Blk w g t [x0, x1, x2, x3, x4]) (y0 y1 y2 y3 y4 : Value) :
    Blk (((((w.setCell ⟨g, 0, none⟩ y0).setCell ⟨g, 1, none⟩ y1).setCell ⟨g, 2, none⟩ y2).setCell ⟨g, 3, none⟩ y3).setCell ⟨g, 4, none⟩ y4) g t [y0, y1, y2, y3, y4] := by
  have h5 : 5 ≤ maxLen := by decide
  exact ((((h.set h5 0 y0).set h5 1 y1).set h5 2 y2).set h5 3 y3).set h5 4 y4
theorem Blk.facts5 {w : World} {g : Nat} {t : TypeId} {x0 x1 x2 x3 x4 : Value} (h : Blk w g t [x0, x1, x2, x3, x4]) :
    (w.cell? ⟨g, 0, none⟩ = some x0 ∧ w.cell? ⟨g, 1, none⟩ = some x1 ∧ w.cell? ⟨g, 2, none⟩ = some x2 ∧ w.cell? ⟨g, 3, none⟩ = some x3 ∧ w.cell? ⟨g, 4, none⟩ = some x4) ∧
    (w.frozen? ⟨g, 0, none⟩ = false ∧ w.frozen? ⟨g, 1, none⟩ = false ∧ w.frozen? ⟨g, 2, none⟩ = false ∧ w.frozen? ⟨g, 3, none⟩ = false ∧ w.frozen? ⟨g, 4, none⟩ = false) := by
  have h5 : 5 ≤ maxLen := by decide
  exact ⟨⟨h.cell 0 rfl, h.cell 1 rfl, h.cell 2 rfl, h.cell 3 rfl, h.cell 4 rfl⟩, ⟨h.frozen h5 0, h.frozen h5 1, h.frozen h5 2, h.frozen h5 3, h.frozen h5 4⟩⟩
theorem below_set5 {w w' : World} {B g : Nat} (h : Below B w w') (hg : B ≤ g) (y0 y1 y2 y3 y4 : Value) : Below B w (((((w'.setCell ⟨g, 0, none⟩ y0).setCell ⟨g, 1, none⟩ y1).setCell ⟨g, 2, none⟩ y2).setCell ⟨g, 3, none⟩ y3).setCell ⟨g, 4, none⟩ y4) :=
  ((((h.setCell hg _).setCell hg _).setCell hg _).setCell hg _).setCell hg _
end Go.Proofs.YtjdflnnpamjjcaaDoor
