/- Nodes in memory, more: parts of slices of nodes, stores into a row of nodes. -/
import Derived.Test.YtldfamdjdkaloaaNodeMem2
namespace Go.Proofs.Ytldfamdjdkaloaa
open Go.RowKit

theorem NodesAt.take {w : World} {B n : Nat} {a : Option Addr} {l : List Tr.Node} (h : NodesAt w B a n l) {k : Nat} (hk : k ≤ n) : NodesAt w B a k (l.take k) := by
  refine ⟨by rw [List.length_take, h.1]; omega, fun h0 => ?_⟩
  obtain ⟨b, off, e, hb, hc⟩ := h.2 (by omega)
  refine ⟨b, off, e, hb, fun i hi => ?_⟩
  rw [List.length_take] at hi
  rw [List.getElem_take]
  exact hc i (by omega)
theorem NodesAt.drop {w : World} {B n b off : Nat} {l : List Tr.Node} (h : NodesAt w B (some ⟨b, off, none⟩) n l) {k : Nat} (hk : k ≤ n) : NodesAt w B (some ⟨b, off + k * 4, none⟩) (n - k) (l.drop k) := by
  refine ⟨by rw [List.length_drop, h.1], fun h0 => ?_⟩
  obtain ⟨b', off', e, hb, hc⟩ := h.2 (by omega)
  injection e with e
  injection e with e1 e2
  subst e1 e2
  refine ⟨b, off + k * 4, rfl, hb, fun i hi => ?_⟩
  rw [List.length_drop] at hi
  rw [List.getElem_drop]
  obtain ⟨c0, c1, c2, c3⟩ := hc (k + i) (by omega)
  rw [show off + (k + i) * 4 = off + k * 4 + i * 4 by omega] at c0 c1 c2 c3
  exact ⟨c0, c1, c2, c3⟩
theorem nodesC_cons (x : Tr.Node) (r : List Tr.Node) : Tr.nodesC (x :: r) = Tr.nodeC x ++ Tr.nodesC r := by unfold Tr.nodesC; rw [List.flatMap_cons]
theorem nodesC_set2 (acc : List Tr.Node) (nd : Tr.Node) (more : List Tr.Node) (o : ByteArray) : (Tr.nodesC (acc ++ nd :: more)).set (acc.length * 4 + 2) (.string o) = Tr.nodesC (acc ++ { nd with o := o } :: more) := by
  rw [Tr.nodesC_append, Tr.nodesC_append, nodesC_cons, nodesC_cons, List.set_append_right _ _ (by rw [Tr.nodesC_length]; omega), Tr.nodesC_length, show acc.length * 4 + 2 - acc.length * 4 = 2 by omega]
  rfl
theorem nodesC_set3 (acc : List Tr.Node) (nd : Tr.Node) (more : List Tr.Node) (s : Int) : (Tr.nodesC (acc ++ nd :: more)).set (acc.length * 4 + 3) (.int .i64 s) = Tr.nodesC (acc ++ { nd with s := s } :: more) := by
  rw [Tr.nodesC_append, Tr.nodesC_append, nodesC_cons, nodesC_cons, List.set_append_right _ _ (by rw [Tr.nodesC_length]; omega), Tr.nodesC_length, show acc.length * 4 + 3 - acc.length * 4 = 3 by omega]
  rfl
/-- A row of nodes that is not empty: its block. -/
theorem OwnN.row {w : World} {B : Nat} {v : Value} {l : List Tr.Node} (h : OwnN w B v l) (hl : l ≠ []) : ∃ g c, v = .slice (some ⟨g, 0, none⟩) l.length c ∧ l.length ≤ c ∧ B ≤ g ∧ g < w.heap.size ∧ w.ownsRow B 56 4 (.slice (some ⟨g, 0, none⟩) l.length c) l.length (Tr.nodesC l) := by
  obtain ⟨a, c, rfl, ho⟩ := h
  rcases ho.2 with ⟨_, hz⟩ | ⟨g, cap, cur, hv, hb, hg, hk, r⟩
  · exact absurd (List.eq_nil_of_length_eq_zero hz) hl
  · injection hv with h1 h2 h3
    subst h1 h3
    exact ⟨g, c, rfl, hk, hb, (ho.lt g rfl).2, ho⟩
theorem OwnN.put2 {w : World} {B g c : Nat} {acc more : List Tr.Node} {nd : Tr.Node} (h : w.ownsRow B 56 4 (.slice (some ⟨g, 0, none⟩) (acc ++ nd :: more).length c) (acc ++ nd :: more).length (Tr.nodesC (acc ++ nd :: more))) (o : ByteArray) :
    (w.setCell ⟨g, acc.length * 4 + 2, none⟩ (.string o)).ownsRow B 56 4 (.slice (some ⟨g, 0, none⟩) (acc ++ { nd with o := o } :: more).length c) (acc ++ { nd with o := o } :: more).length (Tr.nodesC (acc ++ { nd with o := o } :: more)) ∧ w.grownBy (w.setCell ⟨g, acc.length * 4 + 2, none⟩ (.string o)) (some g) := by
  obtain ⟨h1, h2⟩ := h.stored (acc.length * 4 + 2) (.string o)
  rw [nodesC_set2] at h1
  have e : (acc ++ { nd with o := o } :: more).length = (acc ++ nd :: more).length := by simp
  rw [e]
  exact ⟨h1, h2⟩
theorem OwnN.put3 {w : World} {B g c : Nat} {acc more : List Tr.Node} {nd : Tr.Node} (h : w.ownsRow B 56 4 (.slice (some ⟨g, 0, none⟩) (acc ++ nd :: more).length c) (acc ++ nd :: more).length (Tr.nodesC (acc ++ nd :: more))) (s : Int) :
    (w.setCell ⟨g, acc.length * 4 + 3, none⟩ (.int .i64 s)).ownsRow B 56 4 (.slice (some ⟨g, 0, none⟩) (acc ++ { nd with s := s } :: more).length c) (acc ++ { nd with s := s } :: more).length (Tr.nodesC (acc ++ { nd with s := s } :: more)) ∧ w.grownBy (w.setCell ⟨g, acc.length * 4 + 3, none⟩ (.int .i64 s)) (some g) := by
  obtain ⟨h1, h2⟩ := h.stored (acc.length * 4 + 3) (.int .i64 s)
  rw [nodesC_set3] at h1
  have e : (acc ++ { nd with s := s } :: more).length = (acc ++ nd :: more).length := by simp
  rw [e]
  exact ⟨h1, h2⟩
/-- What lies beneath a row's base is kept by what changes the row's block alone. -/
theorem below_of_grown {w w' : World} {B : Nat} {row : Option Nat} (hg : w.grownBy w' row) (hB : B ≤ w.heap.size) (hr : ∀ g, row = some g → B ≤ g) : Below B w w' :=
  ⟨hg.os, hg.tape, hg.output, hg.size, fun k hk => hg.block k (by omega) (fun e => by have := hr k e.symm; omega)⟩
end Go.Proofs.Ytldfamdjdkaloaa
