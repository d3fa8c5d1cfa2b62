/- Nodes in memory, more: copy of nodes into a row; a row of nodes with room. -/
import Derived.Test.YtelanamcpadgdaaNodeMem4
import Derived.Laws.CopyRow
import Derived.Lib.AppendZerosOnto
import Derived.Lib.Overlaps
namespace Go.Proofs.Ytelanamcpadgdaa
open Go.RowKit

theorem run_copy_nodes (w : World) (g o dLen dCap : Nat) (a : Addr) (sLen sCap : Nat) (cur cs : List Value) (hg : w.heap[g]? = some (.cells cur.toArray 56 (0, 0))) (hn : cs.length = Nat.min sLen dLen * 4)
    (hsrc : ∀ j v, cs[j]? = some v → w.cell? (a.add j) = some v) (hfit : o + cs.length ≤ cur.length) (h1 : ∀ v ∈ cs, v.oneCell' = true) :
    ∃ W, (∀ ty, (Builtin.copy_ #[22, 22] ty #[.slice (some ⟨g, o, none⟩) dLen dCap, .slice (some a) sLen sCap]).run Try.prog w = .ok (goInt (Nat.min sLen dLen)) W) ∧
      W.heap[g]? = some (.cells (cur.take o ++ cs ++ cur.drop (o + cs.length)).toArray 56 (0, 0)) ∧ w.grownBy W (some g) := by
  obtain ⟨i, hi, _, hz1, _⟩ := info_node
  have hl := run_loadCells_list (P := Try.prog) w a cs hsrc
  have hst := run_storeCells_at Try.prog g o 56 cs 0 cur.toArray w hg (by simpa using hfit) h1
  refine ⟨w.setRow g (cur.take o ++ cs ++ cur.drop (o + cs.length)).toArray, fun ty => ?_, ?_, ?_⟩
  · simp [Builtin.copy_, run_underlying Try.underlying22, Builtin.lenOf, Builtin.firstCells, sizeOf, typeInfo, hi, hz1, ← hn, hl, hst]
  · simpa using setRow_heap w g _ _ 56 _ hg
  · refine ⟨rfl, rfl, rfl, by simp [World.setRow], fun k hk hne => ?_⟩
    have hkg : g ≠ k := fun e => hne (by rw [e])
    simp [World.setRow, Array.getElem?_modify, hkg]
/-- A row of nodes: its block's cells, the nodes ahead, the room behind. -/
theorem OwnN.block {w : World} {B : Nat} {v : Value} {l : List Tr.Node} (h : OwnN w B v l) (hl : l ≠ []) : ∃ g c X, v = .slice (some ⟨g, 0, none⟩) l.length c ∧ l.length ≤ c ∧ c ≤ maxLen ∧ B ≤ g ∧ g < w.heap.size ∧ w.heap[g]? = some (.cells (Tr.nodesC l ++ X).toArray 56 (0, 0)) ∧ X.length = (c - l.length) * 4 := by
  obtain ⟨g, c, rfl, hc, hB, hlt, ho⟩ := h.row hl
  rcases ho.2 with ⟨hv, _⟩ | ⟨g', cap, cur, hv, _, hg, hk, hm, hs, ht⟩
  · cases hv
  · injection hv with h1 _ h3
    injection h1 with h1
    injection h1 with h1
    subst h1 h3
    refine ⟨g, c, cur.toList.drop (l.length * 4), rfl, hc, hm, hB, hlt, ?_, ?_⟩
    · rw [← ht, List.take_append_drop]
      exact hg
    · rw [List.length_drop, Array.length_toList, hs]
      omega
theorem own_of_block {w : World} {B g c : Nat} {l : List Tr.Node} {X : List Value} (hg : w.heap[g]? = some (.cells (Tr.nodesC l ++ X).toArray 56 (0, 0))) (hX : X.length = (c - l.length) * 4) (hc : l.length ≤ c) (hm : c ≤ maxLen) (hB : B ≤ g) : OwnN w B (.slice (some ⟨g, 0, none⟩) l.length c) l := by
  refine ⟨_, c, rfl, Tr.nodesC_length l, .inr ⟨g, c, _, rfl, hB, hg, hc, hm, ?_, ?_⟩⟩
  · rw [List.size_toArray, List.length_append, Tr.nodesC_length, hX]
    omega
  · show (Tr.nodesC l ++ X).take (l.length * 4) = _
    rw [← Tr.nodesC_length, List.take_left']
    rfl
theorem block_cell {w : World} {g : Nat} {L : List Value} (hg : w.heap[g]? = some (.cells L.toArray 56 (0, 0))) (j : Nat) : w.cell? ⟨g, j, none⟩ = L[j]? := by
  rw [cell_of_row _ _ j _ _ _ hg, List.getElem?_toArray]
theorem run_overlaps_nodes (w : World) (g gv la ca lb cb o : Nat) (cv cg : Array Value) (hv : w.heap[gv]? = some (.cells cv 56 (0, 0))) (hg : w.heap[g]? = some (.cells cg 56 (0, 0))) (hne : gv ≠ g) (hk : cg.size ≠ 0) :
    (callFunc 65 #[.slice (some ⟨gv, 0, none⟩) la ca, .slice (some ⟨g, o, none⟩) lb cb]).run Try.prog w = .ok (.value (.bool false)) w := by
  obtain ⟨i, hi, _, hz1, _⟩ := info_node
  rw [run_callFunc_extern Try.func65 (by kernel_rfl) (by kernel_rfl) (by kernel_rfl) (e := Extern.SlicesOverlaps.overlaps #[22, 22] #[4]) (by kernel_rfl),
    Lib.run_overlaps_apart w 22 4 56 Try.underlying22 4 (fun w => by simp [sizeOf, typeInfo, hi, hz1]) ⟨gv, 0, none⟩ ⟨g, o, none⟩ la ca lb cb hne 56 56 cv.size cg.size (by simp [World.shape?, hv]) (by simp [World.shape?, hg]) hk (by simp [World.frozen?, hv]) (by simp [World.frozen?, hv])]
  rfl
end Go.Proofs.Ytelanamcpadgdaa
