/- Where trie.grow is: its row of nodes, the variable that bears the nodes, the top. -/
import Derived.Test.YtldfamdjdkaloaaNodeMem3
import Derived.Test.YtldfamdjdkaloaaNetInBlk
import Derived.Test.YtldfamdjdkaloaaTriePlain5
namespace Go.Proofs.Ytldfamdjdkaloaa
open Go.RowKit

namespace Tr
theorem halves_lt {l : List Node} (hg : ∀ n ∈ l, good (nw n)) (hl : l ≠ []) : (leftOf (topN l) l).length < l.length ∧ (rightOf (topN l) l).length < l.length := by
  have tl := left_top hg
  have tr := right_top hg
  constructor
  · refine Nat.lt_of_le_of_ne (List.length_filter_le _ _) fun e => ?_
    have h : leftOf (topN l) l = l := List.filter_eq_self.2 (List.length_filter_eq_length_iff.1 e)
    have := tl (by rw [h]; exact hl)
    rw [h] at this
    omega
  · refine Nat.lt_of_le_of_ne (List.length_filter_le _ _) fun e => ?_
    have h : rightOf (topN l) l = l := List.filter_eq_self.2 (List.length_filter_eq_length_iff.1 e)
    have := tr (by rw [h]; exact hl)
    rw [h] at this
    omega
end Tr
/-- grow's row, its boxed variable, the top's block; and what of the old world stands. -/
structure GrowSo (w W : World) (B : Nat) (v vk : Value) (lst : List Tr.Node) (g5 : Nat) (sv : Value) (t : Tr.Nw) : Prop where
  own : OwnN W B vk lst
  row : vk.ownBlock = v.ownBlock ∨ ∃ g, vk.ownBlock = some g ∧ w.heap.size ≤ g
  apart3 : vk.ownBlock ≠ some w.heap.size
  apart5 : vk.ownBlock ≠ some g5
  box : W.heap[w.heap.size]? = some (.cells #[sv] 22 (0, 0))
  top : NetIn W g5 t.1 t.2
  grown : w.grownBy W v.ownBlock
  lt5 : g5 < W.heap.size
  lt3 : w.heap.size < W.heap.size
  ne5 : w.heap.size ≠ g5
theorem GrowSo.below {w W W' : World} {B g5 : Nat} {v vk sv : Value} {lst : List Tr.Node} {t : Tr.Nw} (h : GrowSo w W B v vk lst g5 sv t) (hb : Below W.heap.size W W') : GrowSo w W' B v vk lst g5 sv t :=
  ⟨h.own.below hb, h.row, h.apart3, h.apart5, (hb.block _ h.lt3).trans h.box, h.top.below hb,
    ⟨hb.os.trans h.grown.os, hb.tape.trans h.grown.tape, hb.output.trans h.grown.output, Nat.le_trans h.grown.size hb.size, fun k hk hr => (hb.block k (Nat.lt_of_lt_of_le hk h.grown.size)).trans (h.grown.block k hk hr)⟩,
    Nat.lt_of_lt_of_le h.lt5 hb.size, Nat.lt_of_lt_of_le h.lt3 hb.size, h.ne5⟩
theorem GrowSo.step {w W W' : World} {B g5 : Nat} {v vk vk' sv : Value} {lst lst' : List Tr.Node} {t : Tr.Nw} (h : GrowSo w W B v vk lst g5 sv t) (ho : OwnN W' B vk' lst') (hg : W.grownBy W' vk.ownBlock) (hr : vk'.ownBlock = vk.ownBlock ∨ ∃ g, vk'.ownBlock = some g ∧ W.heap.size ≤ g) : GrowSo w W' B v vk' lst' g5 sv t := by
  have hsz := h.grown.size
  refine ⟨ho, ?_, ?_, ?_, (hg.block _ h.lt3 (Ne.symm h.apart3)).trans h.box, (hg.block _ h.lt5 (Ne.symm h.apart5)).trans h.top, ⟨hg.os.trans h.grown.os, hg.tape.trans h.grown.tape, hg.output.trans h.grown.output, Nat.le_trans hsz hg.size, fun k hk hr' => ?_⟩, Nat.lt_of_lt_of_le h.lt5 hg.size, Nat.lt_of_lt_of_le h.lt3 hg.size, h.ne5⟩
  · rcases hr with hr | ⟨g, hr, hge⟩
    · rw [hr]; exact h.row
    · exact .inr ⟨g, hr, by omega⟩
  · rcases hr with hr | ⟨g, hr, hge⟩
    · rw [hr]; exact h.apart3
    · rw [hr]; intro e; injection e with e; have := h.lt3; omega
  · rcases hr with hr | ⟨g, hr, hge⟩
    · rw [hr]; exact h.apart5
    · rw [hr]; intro e; injection e with e; have := h.lt5; omega
  · refine (hg.block k (Nat.lt_of_lt_of_le hk hsz) fun e => ?_).trans (h.grown.block k hk hr')
    rcases h.row with hv | ⟨g, hv, hge⟩
    · exact hr' (e.trans hv)
    · rw [hv] at e; injection e with e; omega
theorem GrowSo.boxed {w W : World} {B g5 : Nat} {v vk sv : Value} {lst : List Tr.Node} {t : Tr.Nw} (h : GrowSo w W B v vk lst g5 sv t) (sv' : Value) : GrowSo w (W.setCell ⟨w.heap.size, 0, none⟩ sv') B v vk lst g5 sv' t := by
  refine ⟨h.own.newer fun b hb e => h.apart3 (e ▸ hb), h.row, h.apart3, h.apart5, ?_, ?_, ⟨h.grown.os, h.grown.tape, h.grown.output, by simpa using h.grown.size, fun k hk hr => ?_⟩, by simpa using h.lt5, by simpa using h.lt3, h.ne5⟩
  · rw [heap_setCell_same _ _ _ _ _ _ h.box]; rfl
  · exact (heap_setCell_other W ⟨w.heap.size, 0, none⟩ g5 sv' (Ne.symm h.ne5)).trans h.top
  · exact (heap_setCell_other W ⟨w.heap.size, 0, none⟩ k sv' (by show k ≠ w.heap.size; omega)).trans (h.grown.block k hk hr)
theorem GrowSo.cell {w W : World} {B g5 : Nat} {v vk sv : Value} {lst : List Tr.Node} {t : Tr.Nw} (h : GrowSo w W B v vk lst g5 sv t) : W.cell? ⟨w.heap.size, 0, none⟩ = some sv ∧ W.frozen? ⟨w.heap.size, 0, none⟩ = false := by
  refine ⟨(cell_of_row _ _ 0 _ _ _ h.box).trans rfl, ?_⟩
  have := h.box
  simp [World.frozen?, this]
theorem GrowSo.nodes {w W : World} {B g5 n : Nat} {v vk sv : Value} {lst l : List Tr.Node} {t : Tr.Nw} {a : Option Addr} (h : GrowSo w W B v vk lst g5 sv t) (hB : B ≤ w.heap.size) (hv : ∀ g, v.ownBlock = some g → B ≤ g) (hn : NodesAt w B a n l) : NodesAt W B a n l := hn.below (below_of_grown h.grown hB hv)
/-- What grow has left to do behind the top. -/
structure RestSo (w : World) (B b o2 n2 c2 : Nat) (q : List Tr.Node) (nd : Tr.Node) (t : Tr.Nw) (l : List Tr.Node) : Prop where
  nodes : NodesAt w B (some ⟨b, o2, none⟩) n2 q
  cap : n2 ≤ c2
  within : Tr.Within t q
  sorted : Tr.sorted q
  nd : nd = ⟨t.1, t.2, Tr.ownerOf t l, 0⟩
  left : Tr.leftOf t l = Tr.leftOf t q
  right : Tr.rightOf t l = Tr.rightOf t q
  le : n2 ≤ l.length
  mem : ∀ n ∈ q, n ∈ l
/-- The cells of a row's node, and that it can be written. -/
theorem row_node {w : World} {B g c : Nat} {acc more : List Tr.Node} {nd : Tr.Node} (h : w.ownsRow B 56 4 (.slice (some ⟨g, 0, none⟩) (acc ++ nd :: more).length c) (acc ++ nd :: more).length (Tr.nodesC (acc ++ nd :: more))) :
    w.cell? ⟨g, acc.length * 4 + 2, none⟩ = some (.string nd.o) ∧ w.cell? ⟨g, acc.length * 4 + 3, none⟩ = some (.int .i64 nd.s) ∧ w.frozen? ⟨g, acc.length * 4 + 2, none⟩ = false ∧ w.frozen? ⟨g, acc.length * 4 + 3, none⟩ = false := by
  have e : ∀ j, j < 4 → (Tr.nodesC (acc ++ nd :: more))[acc.length * 4 + j]? = (Tr.nodeC nd)[j]? := by
    intro j hj
    rw [Tr.nodesC_get _ acc.length j (by simp) hj]
    simp
  have k : ∀ j u, (Tr.nodesC (acc ++ nd :: more))[j]? = some u → w.cell? ⟨g, j, none⟩ = some u := by
    intro j u hj
    have hl : j < (Tr.nodesC (acc ++ nd :: more)).length := (List.getElem?_eq_some_iff.1 hj).1
    rw [h.cellAt j (by rw [← h.1]; exact hl), hj]
  exact ⟨k _ _ (e 2 (by decide)), k _ _ (e 3 (by decide)), h.frozenAt _, h.frozenAt _⟩
/-- The last store of grow: the size of its node. -/
theorem grow_last {w W : World} {B g5 : Nat} {v v8 sv : Value} {acc GL GR : List Tr.Node} {nd : Tr.Node} {t : Tr.Nw} (h : GrowSo w W B v v8 (acc ++ [nd] ++ GL ++ GR) g5 sv t) :
    ∃ g8 c8, v8 = .slice (some ⟨g8, 0, none⟩) (acc ++ nd :: (GL ++ GR)).length c8 ∧ (acc ++ nd :: (GL ++ GR)).length ≤ c8 ∧ W.cell? ⟨g8, acc.length * 4 + 3, none⟩ = some (.int .i64 nd.s) ∧ W.frozen? ⟨g8, acc.length * 4 + 3, none⟩ = false ∧
      (∀ s, OwnN (W.setCell ⟨g8, acc.length * 4 + 3, none⟩ (.int .i64 s)) B (.slice (some ⟨g8, 0, none⟩) (acc ++ nd :: (GL ++ GR)).length c8) (acc ++ { nd with s := s } :: (GL ++ GR))) ∧
      (∀ s, w.grownBy (W.setCell ⟨g8, acc.length * 4 + 3, none⟩ (.int .i64 s)) v.ownBlock) ∧ (v8.ownBlock = v.ownBlock ∨ ∃ g, v8.ownBlock = some g ∧ w.heap.size ≤ g) := by
  have e : acc ++ [nd] ++ GL ++ GR = acc ++ nd :: (GL ++ GR) := by simp
  rw [e] at h
  obtain ⟨g, c, rfl, hc, hB, hlt, hrow⟩ := h.own.row (by simp)
  obtain ⟨_, m1, _, m3⟩ := row_node hrow
  refine ⟨g, c, rfl, hc, m1, m3, fun s => ?_, fun s => ?_, h.row⟩
  · obtain ⟨p1, _⟩ := OwnN.put3 hrow s
    exact ⟨_, c, by simp, p1⟩
  · obtain ⟨p1, p2⟩ := OwnN.put3 hrow s
    exact (h.step (lst' := acc ++ { nd with s := s } :: (GL ++ GR)) (vk' := .slice (some ⟨g, 0, none⟩) (acc ++ nd :: (GL ++ GR)).length c) ⟨_, c, by simp, p1⟩ p2 (.inl rfl)).grown
end Go.Proofs.Ytldfamdjdkaloaa
