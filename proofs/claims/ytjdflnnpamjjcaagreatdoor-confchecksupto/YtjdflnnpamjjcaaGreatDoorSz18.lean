/- The contract of slices.Insert of one node into a row of nodes of the call's own. -/
import Derived.Test.YtjdflnnpamjjcaaGreatDoorSz17
import Derived.Test.YtjdflnnpamjjcaaGreatDoorConfPlain6
import Derived.Test.YtjdflnnpamjjcaaGreatDoorSz13
import Derived.Lib.SliceRun
import Derived.Laws.CopyRow
import Derived.Lib.AppendZerosOnto
import Derived.Lib.Overlaps
import Derived.Test.YtjdflnnpamjjcaaGreatDoorSz15
import Derived.StillTailTactics
namespace Go.Proofs.YtjdflnnpamjjcaaGreatDoor

namespace Tr
theorem trie_fit {l : List Node} (hg : ∀ n ∈ l, good (nw n)) : fit (trie l) := fun x hx => by
  have h := grown_good 33 l hg x hx
  obtain ⟨h1, h2⟩ := h
  have h3 : 0 ≤ x.b ∧ x.b ≤ 32 := by
    have h3 : Nt.err x.a x.b = 0 := h2
    rcases Nt.err_cases x.a x.b with ⟨-, he⟩ | ⟨h0, h1, -⟩ | ⟨h0, h1, -⟩
    · rw [h3] at he; cases he
    · exact ⟨h0, h1⟩
    · exact ⟨h0, h1⟩
  exact ⟨h1, by omega, by omega⟩
/-- One more network put into the trie of networks that stand once. -/
theorem put_trie {M : List Node} {y : Node} (hg : ∀ n ∈ M ++ [y], good (nw n)) (ho : once (M ++ [y])) (h1 : single (M ++ [y])) : pe (nw y) y.o (trie M) = 0 ∧ putL (nw y) y.o (trie M) = trie (M ++ [y]) := by
  have hgM : ∀ n ∈ M, good (nw n) := fun n hn => hg n (List.mem_append_left _ hn)
  have hoM : once M := (List.pairwise_append.1 ho).1
  have hsM : single M := fun n hn => h1 n (List.mem_append_left _ hn)
  obtain ⟨hf, hp⟩ := trie_fault hgM hoM hsM
  have hy := hg y (by simp)
  have hys := h1 y (by simp)
  have hbe : be (nw y) (trie M) = 0 := by unfold be; rw [if_pos hf]; exact hy.2
  have hpe : pe (nw y) y.o (trie M) = 0 := by unfold pe; rw [if_pos hbe, if_neg (by omega)]
  have hnew : newN (nw y) y.o = y := by
    obtain ⟨ya, yb, yo, ys⟩ := y
    have : ys = 1 := hys.2
    subst this
    rfl
  refine ⟨hpe, ?_⟩
  unfold putL
  rw [if_pos hpe, hnew]
  have hot : (others (nw y) (trie M)).Perm M := by
    have hfil : M.filter (fun n => !decide (nw n = nw y)) = M := List.filter_eq_self.2 fun n hn => by
      have := (List.pairwise_append.1 ho).2.2 n hn y (by simp)
      simpa using this
    unfold others
    exact (hp.filter _).trans (by rw [hfil])
  exact (grown_perm 33 (hot.append_right [y]).symm ho hg).symm
end Tr
namespace Cf
theorem node_nw (k : ByteArray) (n : Nat × Int) : Tr.nw (nodeOf k n) = n := rfl
theorem all_nw (ps : List P) : (allNodes ps).map Tr.nw = ps.flatMap (·.ns) := by
  unfold allNodes
  induction ps with
  | nil => rfl
  | cons p r ih => rw [List.flatMap_cons, List.flatMap_cons, List.map_append, ih, List.map_map]; congr 1; simp [Function.comp_def, node_nw]
theorem nodup_of_right {p : P} (h : right p = 0) : p.ns.Nodup := by
  have := (right_ok h).2.2
  rw [List.nodup_iff_pairwise_ne, List.pairwise_iff_getElem]
  intro i j hi hj hij he
  exact this j hj (List.mem_take_iff_getElem.2 ⟨i, by omega, he⟩)
theorem peers_nodup (key : ByteArray) : ∀ (l : List P) (last : ByteArray) (met : List (Nat × Int)), peersErr key last met l = 0 → met.Nodup → (met ++ l.flatMap (·.ns)).Nodup
  | [], _, met, _, h => by simpa using h
  | p :: r, last, met, h, hm => by
    unfold peersErr at h
    by_cases hr : right p = 0
    · rw [if_neg (fun hn => hn hr)] at h
      split at h
      · cases h
      · split at h
        · cases h
        · next hany =>
          have hdis : ∀ n ∈ p.ns, n ∉ met := fun n hn hmem => hany (List.any_eq_true.2 ⟨n, hn, decide_eq_true hmem⟩)
          have h2 := peers_nodup key r _ _ h (List.nodup_append.2 ⟨hm, nodup_of_right hr, fun a ha b hb e => hdis b hb (e ▸ ha)⟩)
          rwa [List.flatMap_cons, ← List.append_assoc]
    · rw [if_pos hr] at h
      exact absurd h hr
theorem conf_once {x : C} (h : err x = 0) : Tr.once (allNodes x.ps) := by
  have hp : peersErr x.k ⟨#[]⟩ [] x.ps = 0 := by
    unfold err at h
    split at h
    · rename_i g; exact absurd h g.2
    · split at h
      · cases h
      · split at h
        · cases h
        · exact h
  have := peers_nodup x.k x.ps ⟨#[]⟩ [] hp List.nodup_nil
  rw [List.nil_append, ← all_nw, List.nodup_iff_pairwise_ne, List.pairwise_map] at this
  exact this
theorem conf_single {x : C} (h : err x = 0) : Tr.single (allNodes x.ps) := fun n hn => by
  unfold allNodes at hn
  obtain ⟨p, hp, hn⟩ := List.mem_flatMap.1 hn
  obtain ⟨q, hq, rfl⟩ := List.mem_map.1 hn
  refine ⟨?_, rfl⟩
  have hk := right_keyErr ((conf_ok h).2 p hp)
  show 0 < p.k.size
  unfold keyErr Hx.checkErr at hk
  by_cases hs : p.k.data.toList.length = 64
  · have : p.k.size = 64 := by simpa using hs
    omega
  · rw [if_pos hs] at hk; cases hk
theorem conf_good {x : C} (h : err x = 0) (hb : ∀ p ∈ x.ps, ∀ n ∈ p.ns, n.1 < 4294967296) : ∀ n ∈ allNodes x.ps, Tr.good (Tr.nw n) := fun n hn => by
  unfold allNodes at hn
  obtain ⟨p, hp, hn⟩ := List.mem_flatMap.1 hn
  obtain ⟨q, hq, rfl⟩ := List.mem_map.1 hn
  exact ⟨hb p hp q hq, (right_ok ((conf_ok h).2 p hp)).2.1 q hq⟩
/-- The networks up to the j-th of the i-th peer, and the next one. -/
theorem all_part {ps : List P} {i j : Nat} (hi : i < ps.length) (hj : j < ps[i].ns.length) : ∃ R, allNodes ps = (allNodes (ps.take i) ++ (ps[i].ns.take j).map (nodeOf ps[i].k)) ++ [nodeOf ps[i].k ps[i].ns[j]] ++ R := by
  have h1 : allNodes ps = allNodes (ps.take (i + 1)) ++ allNodes (ps.drop (i + 1)) := by
    unfold allNodes
    rw [← List.flatMap_append, List.take_append_drop]
  have h2 : ps[i].ns.map (nodeOf ps[i].k) = (ps[i].ns.take j).map (nodeOf ps[i].k) ++ [nodeOf ps[i].k ps[i].ns[j]] ++ (ps[i].ns.drop (j + 1)).map (nodeOf ps[i].k) := by
    conv => lhs; rw [show ps[i].ns = ps[i].ns.take j ++ [ps[i].ns[j]] ++ ps[i].ns.drop (j + 1) by simp]
    rw [List.map_append, List.map_append, List.map_singleton]
  refine ⟨(ps[i].ns.drop (j + 1)).map (nodeOf ps[i].k) ++ allNodes (ps.drop (i + 1)), ?_⟩
  rw [h1, all_next ps i hi, h2]
  simp only [List.append_assoc]
/-- What a right configuration's next network does to the trie. -/
theorem tree_put {x : C} (h : err x = 0) (hb : ∀ p ∈ x.ps, ∀ n ∈ p.ns, n.1 < 4294967296) {M R : List Tr.Node} {y : Tr.Node} (he : allNodes x.ps = M ++ [y] ++ R) :
    Tr.fit (Tr.trie M) ∧ (Tr.trie M).length ≤ 2 * M.length ∧ Tr.pe (Tr.nw y) y.o (Tr.trie M) = 0 ∧ Tr.putL (Tr.nw y) y.o (Tr.trie M) = Tr.trie (M ++ [y]) := by
  have ho := conf_once h
  have hs := conf_single h
  have hg := conf_good h hb
  rw [he] at ho hs hg
  have hg1 : ∀ n ∈ M ++ [y], Tr.good (Tr.nw n) := fun n hn => hg n (List.mem_append_left _ hn)
  have hgM : ∀ n ∈ M, Tr.good (Tr.nw n) := fun n hn => hg1 n (List.mem_append_left _ hn)
  obtain ⟨h1, h2⟩ := Tr.put_trie hg1 (List.pairwise_append.1 ho).1 (fun n hn => hs n (List.mem_append_left _ hn))
  exact ⟨Tr.trie_fit hgM, Tr.grown_two 33 M hgM, h1, h2⟩
end Cf
end Go.Proofs.YtjdflnnpamjjcaaGreatDoor

namespace Go.Proofs.YtjdflnnpamjjcaaGreatDoor
open Go.RowKit

theorem nodesC_set : ∀ (R : List Tr.Node) (i : Nat) (nd : Tr.Node), i < R.length → Tr.nodesC (R.set i nd) = ((((Tr.nodesC R).set (i * 4) (.int .u32 (nd.a : Int))).set (i * 4 + 1) (.int .i64 nd.b)).set (i * 4 + 2) (.string nd.o)).set (i * 4 + 3) (.int .i64 nd.s) := by
  intro R
  induction R with
  | nil => intro i nd h; simp at h
  | cons x r ih =>
    intro i nd h
    cases i with
    | zero => rw [List.set_cons_zero, nodesC_cons, nodesC_cons]; rfl
    | succ i =>
      rw [List.set_cons_succ, nodesC_cons, nodesC_cons, ih i nd (by simpa using h)]
      have hl : (Tr.nodeC x).length = 4 := rfl
      have e : ∀ (ys : List Value) j v, (Tr.nodeC x ++ ys).set ((i + 1) * 4 + j) v = Tr.nodeC x ++ ys.set (i * 4 + j) v := by
        intro ys j v
        rw [List.set_append_right _ _ (by rw [hl]; omega), hl, show (i + 1) * 4 + j - 4 = i * 4 + j by omega]
      rw [show (i + 1) * 4 = (i + 1) * 4 + 0 from rfl, e, show i * 4 + 0 = i * 4 from rfl, show (i + 1) * 4 + 0 + 1 = (i + 1) * 4 + 1 from rfl, e, show (i + 1) * 4 + 0 + 2 = (i + 1) * 4 + 2 from rfl, e, show (i + 1) * 4 + 0 + 3 = (i + 1) * 4 + 3 from rfl, e]
/-- A whole node stored into a row. -/
theorem OwnN.putN {w : World} {B g c : Nat} {R : List Tr.Node} (h : w.ownsRow B 53 4 (.slice (some ⟨g, 0, none⟩) R.length c) R.length (Tr.nodesC R)) (i : Nat) (hi : i < R.length) (nd : Tr.Node) :
    ((((w.setCell ⟨g, i * 4, none⟩ (.int .u32 (nd.a : Int))).setCell ⟨g, i * 4 + 1, none⟩ (.int .i64 nd.b)).setCell ⟨g, i * 4 + 2, none⟩ (.string nd.o)).setCell ⟨g, i * 4 + 3, none⟩ (.int .i64 nd.s)).ownsRow B 53 4 (.slice (some ⟨g, 0, none⟩) (R.set i nd).length c) (R.set i nd).length (Tr.nodesC (R.set i nd)) ∧
      w.grownBy ((((w.setCell ⟨g, i * 4, none⟩ (.int .u32 (nd.a : Int))).setCell ⟨g, i * 4 + 1, none⟩ (.int .i64 nd.b)).setCell ⟨g, i * 4 + 2, none⟩ (.string nd.o)).setCell ⟨g, i * 4 + 3, none⟩ (.int .i64 nd.s)) (some g) := by
  obtain ⟨h1, g1⟩ := h.stored (i * 4) (.int .u32 (nd.a : Int))
  obtain ⟨h2, g2⟩ := h1.stored (i * 4 + 1) (.int .i64 nd.b)
  obtain ⟨h3, g3⟩ := h2.stored (i * 4 + 2) (.string nd.o)
  obtain ⟨h4, g4⟩ := h3.stored (i * 4 + 3) (.int .i64 nd.s)
  rw [nodesC_set R i nd hi, List.length_set]
  exact ⟨h4, ((g1.trans g2).trans g3).trans g4⟩
/-- Cells of a row that can be written. -/
theorem row_write {w : World} {B g c : Nat} {R : List Tr.Node} (h : w.ownsRow B 53 4 (.slice (some ⟨g, 0, none⟩) R.length c) R.length (Tr.nodesC R)) (i : Nat) (hi : i < R.length) :
    (w.cell? ⟨g, i * 4, none⟩ = some (.int .u32 (R[i].a : Int)) ∧ w.cell? ⟨g, i * 4 + 1, none⟩ = some (.int .i64 R[i].b) ∧ w.cell? ⟨g, i * 4 + 2, none⟩ = some (.string R[i].o) ∧ w.cell? ⟨g, i * 4 + 3, none⟩ = some (.int .i64 R[i].s)) ∧
    w.frozen? ⟨g, i * 4, none⟩ = false ∧ w.frozen? ⟨g, i * 4 + 1, none⟩ = false ∧ w.frozen? ⟨g, i * 4 + 2, none⟩ = false ∧ w.frozen? ⟨g, i * 4 + 3, none⟩ = false := by
  have e : ∀ j, j < 4 → w.cell? ⟨g, i * 4 + j, none⟩ = (Tr.nodeC R[i])[j]? := by
    intro j hj
    rw [h.cellAt (i * 4 + j) (by omega)]
    exact Tr.nodesC_get R i j hi hj
  exact ⟨⟨e 0 (by decide), e 1 (by decide), e 2 (by decide), e 3 (by decide)⟩, h.frozenAt _, h.frozenAt _, h.frozenAt _, h.frozenAt _⟩
theorem row_setCells {w : World} {B e size g n c : Nat} {xs : List Value} (h : w.ownsRow B e size (.slice (some ⟨g, 0, none⟩) n c) n xs) : ∀ (vs : List Value) (o : Nat), ∃ xs', (w.setCells g o vs).ownsRow B e size (.slice (some ⟨g, 0, none⟩) n c) n xs' ∧ (∀ j, j < o → xs'[j]? = xs[j]?) ∧ w.grownBy (w.setCells g o vs) (some g) := by
  intro vs
  induction vs generalizing w xs with
  | nil => intro o; exact ⟨xs, h, fun _ _ => rfl, World.grownBy.refl _ _⟩
  | cons v r ih =>
    intro o
    obtain ⟨h1, g1⟩ := h.stored o v
    obtain ⟨xs', h2, h3, h4⟩ := ih h1 (o + 1)
    refine ⟨xs', h2, fun j hj => ?_, g1.trans h4⟩
    rw [h3 j (by omega), List.getElem?_set_ne (by omega)]
/-- A part of a row of nodes is cleared: what lies ahead of it stays. -/
theorem run_clear_nodes {w : World} {B g c : Nat} {R : List Tr.Node} (h : w.ownsRow B 53 4 (.slice (some ⟨g, 0, none⟩) R.length c) R.length (Tr.nodesC R)) (i m k : Nat) (him : i + m = R.length) (hm : 0 < m) (ty : TypeId) :
    ∃ W, (Builtin.clear_ #[33] ty #[.slice (some ⟨g, i * 4, none⟩) m k]).run Tryz.prog w = .ok (.tuple #[]) W ∧ (∀ B', NodesAt W (max B' (g + 1)) (some ⟨g, 0, none⟩) i (R.take i)) ∧ w.grownBy W (some g) := by
  have hzl : (Builtin.zeroCells #[Value.int .u32 0, .int .i64 0, .string ⟨#[]⟩, .int .i64 0] m).toList.length = m * 4 := by simp [Builtin.zeroCells]
  have hz1 : ∀ v ∈ (Builtin.zeroCells #[Value.int .u32 0, .int .i64 0, .string ⟨#[]⟩, .int .i64 0] m).toList, v.oneCell' = true := by
    intro v hv
    simp only [Builtin.zeroCells, Array.toList_map, List.mem_map] at hv
    obtain ⟨j, _, rfl⟩ := hv
    have hj : j % 4 = 0 ∨ j % 4 = 1 ∨ j % 4 = 2 ∨ j % 4 = 3 := by omega
    rcases hj with hj | hj | hj | hj <;> simp [hj] <;> rfl
  obtain ⟨xs', h2, h3, h4⟩ := row_setCells h (Builtin.zeroCells #[Value.int .u32 0, .int .i64 0, .string ⟨#[]⟩, .int .i64 0] m).toList (i * 4)
  have hst := run_storeCells_cells (P := Tryz.prog) g (i * 4) (Builtin.zeroCells #[Value.int .u32 0, .int .i64 0, .string ⟨#[]⟩, .int .i64 0] m).toList 0 w
    (fun j hj => by
      rw [hzl] at hj
      rw [h.cellAt (i * 4 + 0 + j) (by omega), List.getElem?_eq_getElem (by rw [Tr.nodesC_length]; omega)]
      rfl) (fun j _ => h.frozenAt _) hz1
  rw [Nat.add_zero] at hst
  refine ⟨_, ?_, fun B' => ⟨by rw [List.length_take]; omega, fun hi => ⟨g, 0, rfl, by omega, fun q hq => ?_⟩⟩, h4⟩
  · obtain ⟨m', rfl⟩ : ∃ m', m = m' + 1 := ⟨m - 1, by omega⟩
    simp [Builtin.clear_, run_underlying Tryz.underlying33, Value.cells, hst]
  · rw [List.length_take] at hq
    rw [List.getElem_take]
    have e : ∀ j, j < 4 → (w.setCells g (i * 4) (Builtin.zeroCells #[Value.int .u32 0, .int .i64 0, .string ⟨#[]⟩, .int .i64 0] m).toList).cell? ⟨g, 0 + q * 4 + j, none⟩ = (Tr.nodeC (R[q]'(by omega)))[j]? := by
      intro j hj
      rw [Nat.zero_add, h2.cellAt (q * 4 + j) (by omega), h3 (q * 4 + j) (by omega)]
      exact Tr.nodesC_get R q j (by omega) hj
    exact ⟨e 0 (by decide), e 1 (by decide), e 2 (by decide), e 3 (by decide)⟩
end Go.Proofs.YtjdflnnpamjjcaaGreatDoor

namespace Go.Proofs.YtjdflnnpamjjcaaGreatDoor
open Go.RowKit

theorem run_copy_nodes (w : World) (g o dLen dCap : Nat) (a : Addr) (sLen sCap : Nat) (cur cs : List Value) (hg : w.heap[g]? = some (.cells cur.toArray 53 (0, 0))) (hn : cs.length = Nat.min sLen dLen * 4)
    (hsrc : ∀ j v, cs[j]? = some v → w.cell? (a.add j) = some v) (hfit : o + cs.length ≤ cur.length) (h1 : ∀ v ∈ cs, v.oneCell' = true) :
    ∃ W, (∀ ty, (Builtin.copy_ #[33, 33] ty #[.slice (some ⟨g, o, none⟩) dLen dCap, .slice (some a) sLen sCap]).run Tryz.prog w = .ok (goInt (Nat.min sLen dLen)) W) ∧
      W.heap[g]? = some (.cells (cur.take o ++ cs ++ cur.drop (o + cs.length)).toArray 53 (0, 0)) ∧ w.grownBy W (some g) := by
  obtain ⟨i, hi, _, hz1, _⟩ := info_node
  have hl := run_loadCells_list (P := Tryz.prog) w a cs hsrc
  have hst := run_storeCells_at Tryz.prog g o 53 cs 0 cur.toArray w hg (by simpa using hfit) h1
  refine ⟨w.setRow g (cur.take o ++ cs ++ cur.drop (o + cs.length)).toArray, fun ty => ?_, ?_, ?_⟩
  · simp [Builtin.copy_, run_underlying Tryz.underlying33, Builtin.lenOf, Builtin.firstCells, sizeOf, typeInfo, hi, hz1, ← hn, hl, hst]
  · simpa using setRow_heap w g _ _ 53 _ hg
  · refine ⟨rfl, rfl, rfl, by simp [World.setRow], fun k hk hne => ?_⟩
    have hkg : g ≠ k := fun e => hne (by rw [e])
    simp [World.setRow, Array.getElem?_modify, hkg]
/-- A row of nodes: its block's cells, the nodes ahead, the room behind. -/
theorem OwnN.block {w : World} {B : Nat} {v : Value} {l : List Tr.Node} (h : OwnN w B v l) (hl : l ≠ []) : ∃ g c X, v = .slice (some ⟨g, 0, none⟩) l.length c ∧ l.length ≤ c ∧ c ≤ maxLen ∧ B ≤ g ∧ g < w.heap.size ∧ w.heap[g]? = some (.cells (Tr.nodesC l ++ X).toArray 53 (0, 0)) ∧ X.length = (c - l.length) * 4 := by
  obtain ⟨g, c, rfl, hc, hB, hlt, ho⟩ := h.row hl
  rcases ho.2 with ⟨hv, _⟩ | ⟨g', cap, cur, hv, _, hg, hk, hm, hs, ht⟩
  · cases hv
  · injection hv with h1 _ h3
    injection h1 with h1
    injection h1 with h1
    subst h1 h3
    refine ⟨g, c, cur.toList.drop (l.length * 4), rfl, hc, hm, hB, hlt, ?_, ?_⟩
    · rw [← ht, List.take_append_drop]
      exact hg
    · rw [List.length_drop, Array.length_toList, hs]
      omega
theorem own_of_block {w : World} {B g c : Nat} {l : List Tr.Node} {X : List Value} (hg : w.heap[g]? = some (.cells (Tr.nodesC l ++ X).toArray 53 (0, 0))) (hX : X.length = (c - l.length) * 4) (hc : l.length ≤ c) (hm : c ≤ maxLen) (hB : B ≤ g) : OwnN w B (.slice (some ⟨g, 0, none⟩) l.length c) l := by
  refine ⟨_, c, rfl, Tr.nodesC_length l, .inr ⟨g, c, _, rfl, hB, hg, hc, hm, ?_, ?_⟩⟩
  · rw [List.size_toArray, List.length_append, Tr.nodesC_length, hX]
    omega
  · show (Tr.nodesC l ++ X).take (l.length * 4) = _
    rw [← Tr.nodesC_length, List.take_left']
    rfl
theorem block_cell {w : World} {g : Nat} {L : List Value} (hg : w.heap[g]? = some (.cells L.toArray 53 (0, 0))) (j : Nat) : w.cell? ⟨g, j, none⟩ = L[j]? := by
  rw [cell_of_row _ _ j _ _ _ hg, List.getElem?_toArray]
theorem run_overlaps_nodes (w : World) (g gv la ca lb cb o : Nat) (cv cg : Array Value) (hv : w.heap[gv]? = some (.cells cv 53 (0, 0))) (hg : w.heap[g]? = some (.cells cg 53 (0, 0))) (hne : gv ≠ g) (hk : cg.size ≠ 0) :
    (callFunc 55 #[.slice (some ⟨gv, 0, none⟩) la ca, .slice (some ⟨g, o, none⟩) lb cb]).run Tryz.prog w = .ok (.value (.bool false)) w := by
  obtain ⟨i, hi, _, hz1, _⟩ := info_node
  rw [run_callFunc_extern Tryz.func55 (by kernel_rfl) (by kernel_rfl) (by kernel_rfl) (e := Extern.SlicesOverlaps.overlaps #[33, 33] #[4]) (by kernel_rfl),
    Lib.run_overlaps_apart w 33 4 53 Tryz.underlying33 4 (fun w => by simp [sizeOf, typeInfo, hi, hz1]) ⟨gv, 0, none⟩ ⟨g, o, none⟩ la ca lb cb hne 53 53 cv.size cg.size (by simp [World.shape?, hv]) (by simp [World.shape?, hg]) hk (by simp [World.frozen?, hv]) (by simp [World.frozen?, hv])]
  rfl
end Go.Proofs.YtjdflnnpamjjcaaGreatDoor

namespace Go.Proofs.YtjdflnnpamjjcaaGreatDoor
open Go.RowKit

theorem OwnN.addr {w : World} {B n c : Nat} {ad : Addr} {l : List Tr.Node} (h : OwnN w B (.slice (some ad) n c) l) : ∃ g, ad = ⟨g, 0, none⟩ := by
  obtain ⟨a', c', e, ho⟩ := h
  injection e with e1 e2 e3
  rcases ho.2 with ⟨h1, _⟩ | ⟨g, cap, cur, h1, _⟩
  · injection h1 with h1
    rw [← e1] at h1
    cases h1
  · injection h1 with h1
    rw [← e1] at h1
    injection h1 with h1
    exact ⟨g, h1⟩
set_option maxRecDepth 20000 in
set_option maxHeartbeats 3200000 in
/-- At the end. -/
theorem nodes_Insert_end (v : Value) (S : List Tr.Node) (gv : Nat) (nd : Tr.Node) (w : World) (B : Nat) (hO : OwnN w B v S) (hB : B ≤ w.heap.size) (hn : S.length + 1 ≤ 3518437208883) (hnd : NodeIn w gv nd) :
    Calls Tryz.prog 38 #[v, .int .i64 (S.length : Int), .slice (some ⟨gv, 0, none⟩) 1 1] w fun e w' => ∃ v', e = .returned v' ∧ OwnN w' B v' (S ++ [nd]) ∧ Below B w w' := by
  obtain ⟨va, vc, rfl, hown⟩ := hO
  have hO : OwnN w B (.slice va S.length vc) S := ⟨va, vc, rfl, hown⟩
  have hcap : S.length ≤ vc := by
    rcases hown.2 with ⟨_, hz⟩ | ⟨g, cap, cur, hv, _, _, hk, _⟩
    · omega
    · injection hv with _ _ h3; omega
  have hnil := hO.at'.1
  have HO := Lib.hid hO
  have hnw : NodesAt w w.heap.size (some ⟨gv, 0, none⟩) 1 [nd] := ⟨rfl, fun _ => ⟨gv, 0, rfl, hnd.lt, fun i hi => by
    obtain rfl : i = 0 := by simpa using hi
    exact hnd.cells⟩⟩
  have Hnw := Lib.hid hnw
  obtain ⟨n, hnn⟩ : ∃ n, n = S.length := ⟨_, rfl⟩
  rw [← hnn] at hcap hn hnil ⊢
  have Hn := Lib.hid hnn
  rw [← hnn] at HO
  clear hO hown hnd hnw hnn
  have hw : IntKind.i64.wrap ((n : Int) + 1) = (n : Int) + 1 := IntWalk.i64_in _ (by omega)
  cases va with
  | none =>
    obtain ⟨rfl, rfl⟩ := hnil rfl
    go_enter Tryz.func38, Tryz.ntmps38
    go_wp2_with (at_builtin; refine wpL_append_nodes _ rfl _ _ rfl B _ S rfl HO.out _ 1 _ [nd] rfl (fun h => by cases h) Hnw.out (by have := Hn.out; omega) hB ?_)
    intro v' w2 hO2 hgr _
    have b2 := below_grownN HO.out hgr hB
    have HO2 := Lib.hid hO2
    clear hO2 hgr
    go_wp2
    go_ret
    exact ⟨_, rfl, HO2.out, b2⟩
  | some ad =>
    obtain ⟨g, rfl⟩ := HO.out.addr
    by_cases hcn : vc = n
    · subst hcn
      go_enter Tryz.func38, Tryz.ntmps38
      go_wp2_with (at_builtin; refine wpL_append_nodes _ rfl _ _ rfl B _ S rfl HO.out _ 1 _ [nd] rfl (fun h => by cases h) Hnw.out (by have := Hn.out; omega) hB ?_)
      intro v' w2 hO2 hgr _
      have b2 := below_grownN HO.out hgr hB
      have HO2 := Lib.hid hO2
      clear hO2 hgr
      go_wp2
      go_ret
      exact ⟨_, rfl, HO2.out, b2⟩
    · have hcd : ¬ vc - n = 0 := by omega
      go_enter Tryz.func38, Tryz.ntmps38
      go_wp2_with (at_builtin; refine wpL_append_nodes _ rfl _ _ rfl B _ S rfl HO.out _ 1 _ [nd] rfl (fun h => by cases h) Hnw.out (by have := Hn.out; omega) hB ?_)
      intro v' w2 hO2 hgr _
      have b2 := below_grownN HO.out hgr hB
      have HO2 := Lib.hid hO2
      clear hO2 hgr
      go_wp2
      go_ret
      exact ⟨_, rfl, HO2.out, b2⟩
end Go.Proofs.YtjdflnnpamjjcaaGreatDoor
