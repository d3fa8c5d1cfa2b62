/- Nodes of a trie in memory: a slice of nodes, four cells each. -/
import Derived.Test.YtldfamdjdkaloaaRows
import Derived.Test.YtldfamdjdkaloaaMem
import Derived.Test.YtldfamdjdkaloaaTriePlain2
import Derived.Deep.WholeRow
import Derived.Deep.AppendLies
import Derived.Laws.CopyOwn
namespace Go.Proofs.Ytldfamdjdkaloaa
open Go.RowKit

namespace Tr
def nodeC (n : Node) : List Value := [.int .u32 (n.a : Int), .int .i64 n.b, .string n.o, .int .i64 n.s]
def nodesC (l : List Node) : List Value := l.flatMap nodeC
theorem nodesC_append (l m : List Node) : nodesC (l ++ m) = nodesC l ++ nodesC m := by unfold nodesC; rw [List.flatMap_append]
theorem nodesC_length (l : List Node) : (nodesC l).length = l.length * 4 := by
  unfold nodesC
  induction l with
  | nil => rfl
  | cons x r ih => rw [List.flatMap_cons, List.length_append, ih, List.length_cons]; show 4 + _ = _; omega
theorem nodesC_one (l : List Node) : ∀ v ∈ nodesC l, v.oneCell' = true := by
  intro v hv
  unfold nodesC at hv
  obtain ⟨n, _, hm⟩ := List.mem_flatMap.1 hv
  simp only [nodeC, List.mem_cons, List.not_mem_nil, or_false] at hm
  rcases hm with rfl | rfl | rfl | rfl <;> rfl
theorem nodesC_get : ∀ (l : List Node) (i j : Nat) (h : i < l.length), j < 4 → (nodesC l)[i * 4 + j]? = (nodeC l[i])[j]? := by
  intro l
  induction l with
  | nil => intro i j h _; simp at h
  | cons x r ih =>
    intro i j h hj
    unfold nodesC
    rw [List.flatMap_cons]
    cases i with
    | zero => rw [Nat.zero_mul, Nat.zero_add, List.getElem?_append_left (by show j < 4; exact hj)]; rfl
    | succ i =>
      rw [List.getElem?_append_right (by show 4 ≤ _; omega), show (i + 1) * 4 + j - (nodeC x).length = i * 4 + j by show (i + 1) * 4 + j - 4 = _; omega]
      exact ih i j (by simpa using h) hj
end Tr
/-- The nodes l lie in memory, behind the slice (a, n). -/
def NodesAt (w : World) (B : Nat) (a : Option Addr) (n : Nat) (l : List Tr.Node) : Prop :=
  l.length = n ∧ (0 < n → ∃ b off, a = some ⟨b, off, none⟩ ∧ b < B ∧ ∀ i (h : i < l.length), w.cell? ⟨b, off + i * 4, none⟩ = some (.int .u32 (l[i].a : Int)) ∧ w.cell? ⟨b, off + i * 4 + 1, none⟩ = some (.int .i64 l[i].b) ∧ w.cell? ⟨b, off + i * 4 + 2, none⟩ = some (.string l[i].o) ∧ w.cell? ⟨b, off + i * 4 + 3, none⟩ = some (.int .i64 l[i].s))
theorem NodesAt.below {w w' : World} {B n : Nat} {a : Option Addr} {l : List Tr.Node} (h : NodesAt w B a n l) (hb : Below B w w') : NodesAt w' B a n l :=
  ⟨h.1, fun hn => by
    obtain ⟨b, off, e, hlt, hc⟩ := h.2 hn
    exact ⟨b, off, e, hlt, fun i hi => by
      rw [hb.cell (p := ⟨b, off + i * 4, none⟩) hlt, hb.cell (p := ⟨b, off + i * 4 + 1, none⟩) hlt, hb.cell (p := ⟨b, off + i * 4 + 2, none⟩) hlt, hb.cell (p := ⟨b, off + i * 4 + 3, none⟩) hlt]
      exact hc i hi⟩⟩
theorem info_node : ∃ i, Try.prog.info? 56 = some i ∧ i.zero = some (.agg #[.int .u32 0, .int .i64 0, .string ByteArray.empty, .int .i64 0]) ∧ i.size = 4 ∧ i.bytes = 40 := info_parts (by kernel_rfl)
/-- The nodes so far, in a row of the call's own. -/
def OwnN (w : World) (B : Nat) (v : Value) (l : List Tr.Node) : Prop := ∃ a c, v = .slice a l.length c ∧ w.ownsRow B 56 4 (.slice a l.length c) l.length (Tr.nodesC l)
theorem OwnN.nil (w : World) (B : Nat) : OwnN w B (.slice none 0 0) [] := ⟨none, 0, rfl, World.ownsRow_nil _ _ _ _⟩
theorem news_node (w : World) (n : Tr.Node) (t : TypeId) : ∀ j u, (Tr.nodeC n)[j]? = some u → (w.alloc (.cells (Tr.nodeC n).toArray t)).cell? ((⟨w.heap.size, 0, none⟩ : Addr).add j) = some u := by
  intro j u hj
  rw [Addr.add_lit, Nat.zero_add, cell_of_row _ _ j _ _ _ (heap_alloc_last w _), List.getElem?_toArray]
  exact hj
theorem own_to {w : World} {B n : Nat} {v : Value} {xs : List Value} (h : w.ownsRow B 56 4 v n xs) : ∃ a c, v = .slice a n c := by
  rcases h.2 with ⟨rfl, rfl⟩ | ⟨g, cap, cur, rfl, _⟩
  · exact ⟨none, 0, rfl⟩
  · exact ⟨_, cap, rfl⟩
theorem ownsRow_base4 {w : World} {B B' n : Nat} {v : Value} {xs : List Value} (h : w.ownsRow B 56 4 v n xs) (hb : B' ≤ B) : w.ownsRow B' 56 4 v n xs := by
  refine ⟨h.1, ?_⟩
  rcases h.2 with hn | ⟨g, cap, cur, hv, hg, r⟩
  · exact .inl hn
  · exact .inr ⟨g, cap, cur, hv, Nat.le_trans hb hg, r⟩
theorem OwnN.alloc {w : World} {B : Nat} {v : Value} {l : List Tr.Node} (h : OwnN w B v l) (o : Obj) : OwnN (w.alloc o) B v l := by
  obtain ⟨a, c, e, ho⟩ := h
  exact ⟨a, c, e, ho.alloc o⟩
theorem wpL_append_node (w : World) {ops : Array Oper} {rest : List Oper} {o : Oper} {a : Act} {Q : Exit → Act → World → Prop} (hgd : o.guard = none) (s x : Operand)
    (ho : o.op = .call { callee := .builtin .append, args := #[s, x], argTypes := #[22, 22] }) (B : Nat) (v : Value) (l : List Tr.Node) (hs : a.eval s = v) (hO : OwnN w B v l)
    (ad : Addr) (m c : Nat) (news : List Tr.Node) (hx : a.eval x = .slice (some ad) m c) (hm : news.length = m) (hnews : ∀ j u, (Tr.nodesC news)[j]? = some u → w.cell? (ad.add j) = some u) (hmax : l.length + m ≤ 3518437208883) (hB : B ≤ w.heap.size)
    (h : ∀ v' w', OwnN w' B v' (l ++ news) → Below B w w' → wpList Try.prog ops Q rest (a.put o.dst v') w') : wpList Try.prog ops Q (o :: rest) a w := by
  obtain ⟨i, hi, hz0, hz1, hz2⟩ := info_node
  obtain ⟨av, cv, rfl, hown⟩ := hO
  refine wpList_append_own w hgd s x 22 ho B 56 i _ 4 40 Try.underlying22 hi hz0 hz1 hz2 rfl (by decide) _ l.length _ hs hown ad m c (Tr.nodesC news) hx (by rw [Tr.nodesC_length, hm]) hnews (Tr.nodesC_one _) (by unfold maxLen; omega) (by omega) hB ?_
  intro v' w' ho' hg _
  obtain ⟨a', c', rfl⟩ := own_to ho'
  refine h _ w' ⟨a', c', by rw [List.length_append, hm], ?_⟩ ((Below.refl B _).grown hg hB (fun k hk => (hown.lt k hk).1))
  rw [List.length_append, hm, Tr.nodesC_append]
  exact ho'
end Go.Proofs.Ytldfamdjdkaloaa
