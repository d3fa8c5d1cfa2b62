/- Three raw things in three blocks that a call has just made; small facts on lists of marks. -/
import Derived.Test.YtldfamdjdkaloabDoorRows
import Derived.Test.YtldfamdjdkaloabDoorMem
import Derived.Deep.WholeRow
namespace Go.Proofs.YtldfamdjdkaloabDoor
open Go.RowKit

theorem three_blocks (w : World) (x y z : Array Value) :
    Below w.heap.size w (((w.alloc (.cells x 46)).alloc (.cells y 46)).alloc (.cells z 46)) ∧ (((w.alloc (.cells x 46)).alloc (.cells y 46)).alloc (.cells z 46)).heap.size = w.heap.size + 3 ∧
    (((w.alloc (.cells x 46)).alloc (.cells y 46)).alloc (.cells z 46)).heap[w.heap.size]? = some (.cells x 46 (0, 0)) ∧
    (((w.alloc (.cells x 46)).alloc (.cells y 46)).alloc (.cells z 46)).heap[w.heap.size + 1]? = some (.cells y 46 (0, 0)) ∧
    (((w.alloc (.cells x 46)).alloc (.cells y 46)).alloc (.cells z 46)).heap[w.heap.size + 1 + 1]? = some (.cells z 46 (0, 0)) := by
  have e1 : (w.alloc (.cells x 46)).heap.size = w.heap.size + 1 := by simp
  have e2 : ((w.alloc (.cells x 46)).alloc (.cells y 46)).heap.size = w.heap.size + 1 + 1 := by simp
  refine ⟨(((Below.refl _ _).alloc (Nat.le_refl _) _).alloc (by omega) _).alloc (by omega) _, by simp, ?_, ?_, ?_⟩
  · rw [Below.heap_alloc _ _ _ (by omega), Below.heap_alloc _ _ _ (by omega)]; exact heap_alloc_last w _
  · rw [Below.heap_alloc _ _ _ (by omega), ← e1]; exact heap_alloc_last _ _
  · rw [← e2]; exact heap_alloc_last _ _
theorem raw_cells {w w' : World} {g : Nat} {x y z u : Value} (hg : w.heap[g]? = some (.cells #[x, y, z, u] 46 (0, 0))) (hb : Below w.heap.size w w') :
    w'.cell? ⟨g, 0, none⟩ = some x ∧ w'.cell? ⟨g, 1, none⟩ = some y ∧ w'.cell? ⟨g, 2, none⟩ = some z ∧ w'.cell? ⟨g, 3, none⟩ = some u := by
  have hlt : g < w.heap.size := by
    by_cases h : g < w.heap.size
    · exact h
    · rw [Array.getElem?_eq_none (by omega)] at hg; cases hg
  have hg' := (hb.block g hlt).trans hg
  refine ⟨?_, ?_, ?_, ?_⟩
  · exact (cell_of_row _ _ 0 _ _ _ hg').trans rfl
  · exact (cell_of_row _ _ 1 _ _ _ hg').trans rfl
  · exact (cell_of_row _ _ 2 _ _ _ hg').trans rfl
  · exact (cell_of_row _ _ 3 _ _ _ hg').trans rfl
theorem listed_all {listed : Array Bool} {n : Nat} (hs : listed.size = n) (hc : listed.toList.count false = 0) : ∀ j, j < n → listed.getD j false = true := by
  intro j hj
  have hlt : j < listed.size := by omega
  cases hx : listed[j]
  · exfalso
    have hm : false ∈ listed.toList := by rw [← hx]; simp
    exact (List.count_eq_zero.1 hc) hm
  · simp [hlt, hx]
theorem getD_false {listed : Array Bool} {i : Nat} (h : listed.getD i true = false) : listed.getD i false = false := by
  by_cases hlt : i < listed.size
  · simpa [hlt] using h
  · simp [hlt] at h
end Go.Proofs.YtldfamdjdkaloabDoor
