/- How a slice of nodes is read as an argument of a law. -/
import Derived.Test.YtelanamcpadgdaaFrameG
import Derived.Test.YtelanamcpadgdaaTrieCode6
import Derived.Deep.SlicePairs
namespace Go.Proofs.Ytelanamcpadgdaa
open Go.ChangeShapes Go.WideShapes Go.ChangeAt Go.RowKit Go.Deep

instance : Inhabited Tr.Node := ⟨⟨0, 0, ByteArray.empty, 0⟩⟩
theorem cells_node : Try.prog.cellsOf 56 = 4 := by kernel_rfl
theorem bytes_node : Try.prog.bytesOf 56 = 40 := by kernel_rfl
set_option maxRecDepth 100000 in
/-- One node, out of its four cells. -/
theorem open_node {H : Type} {enc : TypeId × Value → H} {W : World} {n : Nat} {cs : List Value} {x : DataW H × List MemPlace} (hl : cs.length = 4)
    (h : DataW.trod enc Try.prog W 0 (fun _ => true) true n 56 cs = some x) :
    ∃ nd : Tr.Node, cs = Tr.nodeC nd ∧ nd.a < 4294967296 ∧ (-9223372036854775808 ≤ nd.b ∧ nd.b ≤ 9223372036854775807) ∧ (-9223372036854775808 ≤ nd.s ∧ nd.s ≤ 9223372036854775807) := by
  obtain ⟨xs, m, _, _, _, hxl, hf⟩ := DataW.trod_struct Try.underlying56 h
  match xs, hxl, cs, hl with
  | [y0, y1, y2], _, [v0, v1, v2, v3], _ =>
    have g0 := hf 0 _ rfl
    have g1 := hf 1 _ rfl
    have g2 := hf 2 _ rfl
    change DataW.trod enc Try.prog W 0 (fun _ => true) true m 28 [v0, v1] = some y0 at g0
    change DataW.trod enc Try.prog W 0 (fun _ => true) true m 9 [v2] = some y1 at g1
    change DataW.trod enc Try.prog W 0 (fun _ => true) true m 3 [v3] = some y2 at g2
    obtain ⟨zs, k, _, _, _, hzl, hz⟩ := DataW.trod_struct Try.underlying28 g0
    match zs, hzl with
    | [z0, z1], _ =>
      have q0 := hz 0 _ rfl
      have q1 := hz 1 _ rfl
      change DataW.trod enc Try.prog W 0 (fun _ => true) true k 26 [v0] = some z0 at q0
      change DataW.trod enc Try.prog W 0 (fun _ => true) true k 3 [v1] = some z1 at q1
      obtain ⟨a, e0, _, w0⟩ := DataW.trod_int Try.underlying26 q0
      obtain ⟨b, e1, _, w1⟩ := DataW.trod_int Try.underlying3 q1
      obtain ⟨o, e2, _, _⟩ := DataW.trod_string Try.underlying9 g1
      obtain ⟨s, e3, _, w3⟩ := DataW.trod_int Try.underlying3 g2
      injection e0 with e0
      injection e1 with e1
      injection e2 with e2
      injection e3 with e3
      subst e0 e1 e2 e3
      have ha := bounds_u32 w0
      obtain ⟨a', rfl⟩ : ∃ a' : Nat, a = (a' : Int) := ⟨a.toNat, by omega⟩
      exact ⟨⟨a', b, o, s⟩, rfl, by show a' < _; omega, bounds_i64 w1, bounds_i64 w3⟩
/-- A slice of nodes. -/
theorem open_nodes {H : Type} {enc : TypeId × Value → H} {W : World} {a : Option Addr} {len cap : Nat} {d : DataW H} {p : List MemPlace}
    (h : DataW.Trod enc Try.prog W 0 (fun _ => true) true 22 (.slice a len cap) d p) :
    ∃ l : List Tr.Node, NodesAt W W.heap.size a len l ∧ len ≤ cap ∧ Tr.fit l ∧ ((d = .nil ∧ cap = 0) ∨ ∃ el sp, d = .slice el sp ∧ el.length + sp.length = cap) := by
  obtain ⟨fuel, hf⟩ := h
  rcases open_slice Try.underlying22 hf with ⟨hcs, hx⟩ | ⟨x, l, c, m, n, D, Pl, hcs, _, hl, hm, hmm, hx, hall⟩
  · simp [Value.cells] at hcs
    obtain ⟨rfl, rfl, rfl⟩ := hcs
    simp only [Prod.mk.injEq] at hx
    exact ⟨[], ⟨rfl, fun h => absurd h (by omega)⟩, Nat.le_refl _, fun _ h => (by cases h), .inl ⟨hx.1, rfl⟩⟩
  · simp [Value.cells] at hcs
    obtain ⟨rfl, rfl, rfl⟩ := hcs
    simp only [Prod.mk.injEq] at hx
    rw [if_pos rfl] at hmm
    subst hmm
    rw [cells_node] at hall
    have each : ∀ i, i < m → ∃ nd : Tr.Node, (∀ j, j < 4 → W.cell? (x.add (i * 4 + j)) = (Tr.nodeC nd)[j]?) ∧ nd.a < 4294967296 ∧ (-9223372036854775808 ≤ nd.b ∧ nd.b ≤ 9223372036854775807) ∧ (-9223372036854775808 ≤ nd.s ∧ nd.s ≤ 9223372036854775807) := by
      intro i hi
      obtain ⟨cs', h1, h2⟩ := hall i hi
      obtain ⟨_, hlen, hcell⟩ := World.cells?_some h1
      obtain ⟨nd, rfl, hn⟩ := open_node hlen h2
      exact ⟨nd, fun j hj => by rw [← add_add]; exact hcell j hj, hn⟩
    obtain ⟨q, hq⟩ := choose_lt each
    refine ⟨(List.range len).map q, ⟨by simp, fun hpos => ?_⟩, hl, ?_, .inr ⟨_, _, hx.1, by simp; omega⟩⟩
    · obtain ⟨b, off, spot⟩ := x
      have h0 := (hq 0 (by omega)).1 0 (by omega)
      have hspot : spot = none := by simpa [Addr.add] using World.cell?_spot h0
      subst hspot
      have hc : ∀ i (_ : i < len) j (_ : j < 4), W.cell? ⟨b, off + i * 4 + j, none⟩ = (Tr.nodeC (q i))[j]? := by
        intro i hi j hj
        rw [← (hq i (by omega)).1 j hj, Addr.add_lit, Nat.add_assoc]
      refine ⟨b, off, rfl, lt_of_cell (a := ⟨b, off + 0 * 4 + 0, none⟩) (hc 0 hpos 0 (by omega)), fun i hi => ?_⟩
      have hi' : i < len := by simpa using hi
      rw [List.getElem_map, List.getElem_range]
      exact ⟨hc i hi' 0 (by omega), hc i hi' 1 (by omega), hc i hi' 2 (by omega), hc i hi' 3 (by omega)⟩
    · intro nd hnd
      obtain ⟨i, hi, rfl⟩ := List.mem_map.1 hnd
      have := (hq i (by have := List.mem_range.1 hi; omega)).2
      exact ⟨this.1, this.2.1⟩
end Go.Proofs.Ytelanamcpadgdaa
