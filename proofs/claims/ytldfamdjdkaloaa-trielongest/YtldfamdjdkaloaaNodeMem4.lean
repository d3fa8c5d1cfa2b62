/- Nodes in memory, more: a whole node stored into a row, a part of a row cleared. -/
import Derived.Test.YtldfamdjdkaloaaNodeMem3
import Derived.Lib.SliceRun
namespace Go.Proofs.Ytldfamdjdkaloaa
open Go.RowKit

theorem nodesC_set : ∀ (R : List Tr.Node) (i : Nat) (nd : Tr.Node), i < R.length → Tr.nodesC (R.set i nd) = ((((Tr.nodesC R).set (i * 4) (.int .u32 (nd.a : Int))).set (i * 4 + 1) (.int .i64 nd.b)).set (i * 4 + 2) (.string nd.o)).set (i * 4 + 3) (.int .i64 nd.s) := by
  intro R
  induction R with
  | nil => intro i nd h; simp at h
  | cons x r ih =>
    intro i nd h
    cases i with
    | zero => rw [List.set_cons_zero, nodesC_cons, nodesC_cons]; rfl
    | succ i =>
      rw [List.set_cons_succ, nodesC_cons, nodesC_cons, ih i nd (by simpa using h)]
      have hl : (Tr.nodeC x).length = 4 := rfl
      have e : ∀ (ys : List Value) j v, (Tr.nodeC x ++ ys).set ((i + 1) * 4 + j) v = Tr.nodeC x ++ ys.set (i * 4 + j) v := by
        intro ys j v
        rw [List.set_append_right _ _ (by rw [hl]; omega), hl, show (i + 1) * 4 + j - 4 = i * 4 + j by omega]
      rw [show (i + 1) * 4 = (i + 1) * 4 + 0 from rfl, e, show i * 4 + 0 = i * 4 from rfl, show (i + 1) * 4 + 0 + 1 = (i + 1) * 4 + 1 from rfl, e, show (i + 1) * 4 + 0 + 2 = (i + 1) * 4 + 2 from rfl, e, show (i + 1) * 4 + 0 + 3 = (i + 1) * 4 + 3 from rfl, e]
/-- A whole node stored into a row. -/
theorem OwnN.putN {w : World} {B g c : Nat} {R : List Tr.Node} (h : w.ownsRow B 56 4 (.slice (some ⟨g, 0, none⟩) R.length c) R.length (Tr.nodesC R)) (i : Nat) (hi : i < R.length) (nd : Tr.Node) :
    ((((w.setCell ⟨g, i * 4, none⟩ (.int .u32 (nd.a : Int))).setCell ⟨g, i * 4 + 1, none⟩ (.int .i64 nd.b)).setCell ⟨g, i * 4 + 2, none⟩ (.string nd.o)).setCell ⟨g, i * 4 + 3, none⟩ (.int .i64 nd.s)).ownsRow B 56 4 (.slice (some ⟨g, 0, none⟩) (R.set i nd).length c) (R.set i nd).length (Tr.nodesC (R.set i nd)) ∧
      w.grownBy ((((w.setCell ⟨g, i * 4, none⟩ (.int .u32 (nd.a : Int))).setCell ⟨g, i * 4 + 1, none⟩ (.int .i64 nd.b)).setCell ⟨g, i * 4 + 2, none⟩ (.string nd.o)).setCell ⟨g, i * 4 + 3, none⟩ (.int .i64 nd.s)) (some g) := by
  obtain ⟨h1, g1⟩ := h.stored (i * 4) (.int .u32 (nd.a : Int))
  obtain ⟨h2, g2⟩ := h1.stored (i * 4 + 1) (.int .i64 nd.b)
  obtain ⟨h3, g3⟩ := h2.stored (i * 4 + 2) (.string nd.o)
  obtain ⟨h4, g4⟩ := h3.stored (i * 4 + 3) (.int .i64 nd.s)
  rw [nodesC_set R i nd hi, List.length_set]
  exact ⟨h4, ((g1.trans g2).trans g3).trans g4⟩
/-- Cells of a row that can be written. -/
theorem row_write {w : World} {B g c : Nat} {R : List Tr.Node} (h : w.ownsRow B 56 4 (.slice (some ⟨g, 0, none⟩) R.length c) R.length (Tr.nodesC R)) (i : Nat) (hi : i < R.length) :
    (w.cell? ⟨g, i * 4, none⟩ = some (.int .u32 (R[i].a : Int)) ∧ w.cell? ⟨g, i * 4 + 1, none⟩ = some (.int .i64 R[i].b) ∧ w.cell? ⟨g, i * 4 + 2, none⟩ = some (.string R[i].o) ∧ w.cell? ⟨g, i * 4 + 3, none⟩ = some (.int .i64 R[i].s)) ∧
    w.frozen? ⟨g, i * 4, none⟩ = false ∧ w.frozen? ⟨g, i * 4 + 1, none⟩ = false ∧ w.frozen? ⟨g, i * 4 + 2, none⟩ = false ∧ w.frozen? ⟨g, i * 4 + 3, none⟩ = false := by
  have e : ∀ j, j < 4 → w.cell? ⟨g, i * 4 + j, none⟩ = (Tr.nodeC R[i])[j]? := by
    intro j hj
    rw [h.cellAt (i * 4 + j) (by omega)]
    exact Tr.nodesC_get R i j hi hj
  exact ⟨⟨e 0 (by decide), e 1 (by decide), e 2 (by decide), e 3 (by decide)⟩, h.frozenAt _, h.frozenAt _, h.frozenAt _, h.frozenAt _⟩
theorem row_setCells {w : World} {B e size g n c : Nat} {xs : List Value} (h : w.ownsRow B e size (.slice (some ⟨g, 0, none⟩) n c) n xs) : ∀ (vs : List Value) (o : Nat), ∃ xs', (w.setCells g o vs).ownsRow B e size (.slice (some ⟨g, 0, none⟩) n c) n xs' ∧ (∀ j, j < o → xs'[j]? = xs[j]?) ∧ w.grownBy (w.setCells g o vs) (some g) := by
  intro vs
  induction vs generalizing w xs with
  | nil => intro o; exact ⟨xs, h, fun _ _ => rfl, World.grownBy.refl _ _⟩
  | cons v r ih =>
    intro o
    obtain ⟨h1, g1⟩ := h.stored o v
    obtain ⟨xs', h2, h3, h4⟩ := ih h1 (o + 1)
    refine ⟨xs', h2, fun j hj => ?_, g1.trans h4⟩
    rw [h3 j (by omega), List.getElem?_set_ne (by omega)]
/-- A part of a row of nodes is cleared: what lies ahead of it stays. -/
theorem run_clear_nodes {w : World} {B g c : Nat} {R : List Tr.Node} (h : w.ownsRow B 56 4 (.slice (some ⟨g, 0, none⟩) R.length c) R.length (Tr.nodesC R)) (i m k : Nat) (him : i + m = R.length) (hm : 0 < m) (ty : TypeId) :
    ∃ W, (Builtin.clear_ #[22] ty #[.slice (some ⟨g, i * 4, none⟩) m k]).run Try.prog w = .ok (.tuple #[]) W ∧ (∀ B', NodesAt W (max B' (g + 1)) (some ⟨g, 0, none⟩) i (R.take i)) ∧ w.grownBy W (some g) := by
  have hzl : (Builtin.zeroCells #[Value.int .u32 0, .int .i64 0, .string ⟨#[]⟩, .int .i64 0] m).toList.length = m * 4 := by simp [Builtin.zeroCells]
  have hz1 : ∀ v ∈ (Builtin.zeroCells #[Value.int .u32 0, .int .i64 0, .string ⟨#[]⟩, .int .i64 0] m).toList, v.oneCell' = true := by
    intro v hv
    simp only [Builtin.zeroCells, Array.toList_map, List.mem_map] at hv
    obtain ⟨j, _, rfl⟩ := hv
    have hj : j % 4 = 0 ∨ j % 4 = 1 ∨ j % 4 = 2 ∨ j % 4 = 3 := by omega
    rcases hj with hj | hj | hj | hj <;> simp [hj] <;> rfl
  obtain ⟨xs', h2, h3, h4⟩ := row_setCells h (Builtin.zeroCells #[Value.int .u32 0, .int .i64 0, .string ⟨#[]⟩, .int .i64 0] m).toList (i * 4)
  have hst := run_storeCells_cells (P := Try.prog) g (i * 4) (Builtin.zeroCells #[Value.int .u32 0, .int .i64 0, .string ⟨#[]⟩, .int .i64 0] m).toList 0 w
    (fun j hj => by
      rw [hzl] at hj
      rw [h.cellAt (i * 4 + 0 + j) (by omega), List.getElem?_eq_getElem (by rw [Tr.nodesC_length]; omega)]
      rfl) (fun j _ => h.frozenAt _) hz1
  rw [Nat.add_zero] at hst
  refine ⟨_, ?_, fun B' => ⟨by rw [List.length_take]; omega, fun hi => ⟨g, 0, rfl, by omega, fun q hq => ?_⟩⟩, h4⟩
  · obtain ⟨m', rfl⟩ : ∃ m', m = m' + 1 := ⟨m - 1, by omega⟩
    simp [Builtin.clear_, run_underlying Try.underlying22, Value.cells, hst]
  · rw [List.length_take] at hq
    rw [List.getElem_take]
    have e : ∀ j, j < 4 → (w.setCells g (i * 4) (Builtin.zeroCells #[Value.int .u32 0, .int .i64 0, .string ⟨#[]⟩, .int .i64 0] m).toList).cell? ⟨g, 0 + q * 4 + j, none⟩ = (Tr.nodeC (R[q]'(by omega)))[j]? := by
      intro j hj
      rw [Nat.zero_add, h2.cellAt (q * 4 + j) (by omega), h3 (q * 4 + j) (by omega)]
      exact Tr.nodesC_get R q j (by omega) hj
    exact ⟨e 0 (by decide), e 1 (by decide), e 2 (by decide), e 3 (by decide)⟩
end Go.Proofs.Ytldfamdjdkaloaa
