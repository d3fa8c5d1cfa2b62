/- How a line, and a slice of lines, is read as an argument of a law. -/
import Derived.Test.YtldfamdjdkaloabDoorFrameG
import Derived.Test.YtldfamdjdkaloabDoorLineMem
import Derived.Deep.SlicePairs
import Derived.Lib.SmallJoins
namespace Go.Proofs.YtldfamdjdkaloabDoor
open Go.ChangeShapes Go.WideShapes Go.ChangeAt Go.RowKit Go.Deep

set_option maxRecDepth 100000 in
theorem open_line {H : Type} {enc : TypeId × Value → H} {W : World} {base : Nat} {v : Value} {d : DataW H} {p : List MemPlace} (hv : Value.okWide Tryd.prog W .any base 23 v)
    (h : DataW.Trod enc Tryd.prog W 0 (fun _ => true) true 23 v d p) : ∃ x : Ln.L, v = lineV x := by
  obtain ⟨v0, v1, y0, y1, n, rfl, rfl, rfl, h0, h1⟩ := Joins.open_agg2 Tryd.underlying23 (by kernel_rfl) (by kernel_rfl) hv h
  obtain ⟨a, e0, _, _⟩ := DataW.trod_string Tryd.underlying9 h0
  obtain ⟨b, e1, _, _⟩ := DataW.trod_string Tryd.underlying9 h1
  injection e0 with e0
  injection e1 with e1
  subst e0 e1
  exact ⟨⟨a, b⟩, rfl⟩
theorem cells_line : Tryd.prog.cellsOf 23 = 2 := by kernel_rfl
set_option maxRecDepth 100000 in
theorem open_line2 {H : Type} {enc : TypeId × Value → H} {W : World} {n : Nat} {cs : List Value} {x : DataW H × List MemPlace} (hl : cs.length = 2)
    (h : DataW.trod enc Tryd.prog W 0 (fun _ => true) true n 23 cs = some x) : ∃ r : Ln.L, cs = Ln.lineC r := by
  obtain ⟨xs, m, _, _, _, hxl, hf⟩ := DataW.trod_struct Tryd.underlying23 h
  match xs, hxl, cs, hl with
  | [y0, y1], _, [v0, v1], _ =>
    have g0 := hf 0 _ rfl
    have g1 := hf 1 _ rfl
    change DataW.trod enc Tryd.prog W 0 (fun _ => true) true m 9 [v0] = some y0 at g0
    change DataW.trod enc Tryd.prog W 0 (fun _ => true) true m 9 [v1] = some y1 at g1
    obtain ⟨k, e0, _, _⟩ := DataW.trod_string Tryd.underlying9 g0
    obtain ⟨a, e1, _, _⟩ := DataW.trod_string Tryd.underlying9 g1
    injection e0 with e0
    injection e1 with e1
    subst e0 e1
    exact ⟨⟨k, a⟩, rfl⟩
theorem open_lines {H : Type} {enc : TypeId × Value → H} {W : World} {a : Option Addr} {len cap : Nat} {d : DataW H} {p : List MemPlace}
    (h : DataW.Trod enc Tryd.prog W 0 (fun _ => true) true 26 (.slice a len cap) d p) :
    ∃ l : List Ln.L, LinesAt W W.heap.size a len l ∧ len ≤ cap := by
  obtain ⟨fuel, hf⟩ := h
  rcases open_slice Tryd.underlying26 hf with ⟨hcs, hx⟩ | ⟨x, l, c, m, n, D, Pl, hcs, _, hl, hm, hmm, hx, hall⟩
  · simp [Value.cells] at hcs
    obtain ⟨rfl, rfl, rfl⟩ := hcs
    exact ⟨[], ⟨rfl, fun h => absurd h (by omega)⟩, Nat.le_refl _⟩
  · simp [Value.cells] at hcs
    obtain ⟨rfl, rfl, rfl⟩ := hcs
    rw [if_pos rfl] at hmm
    subst hmm
    rw [cells_line] at hall
    have each : ∀ i, i < m → ∃ r : Ln.L, ∀ j, j < 2 → W.cell? (x.add (i * 2 + j)) = (Ln.lineC r)[j]? := by
      intro i hi
      obtain ⟨cs', h1, h2⟩ := hall i hi
      obtain ⟨_, hlen, hcell⟩ := World.cells?_some h1
      obtain ⟨r, rfl⟩ := open_line2 hlen h2
      exact ⟨r, fun j hj => by rw [← add_add]; exact hcell j hj⟩
    obtain ⟨q, hq⟩ := choose_lt each
    refine ⟨(List.range len).map q, ⟨by simp, fun hpos => ?_⟩, hl⟩
    obtain ⟨b, off, spot⟩ := x
    have h0 := hq 0 (by omega) 0 (by omega)
    have hspot : spot = none := by simpa [Addr.add] using World.cell?_spot h0
    subst hspot
    have hc : ∀ i (_ : i < len) j (_ : j < 2), W.cell? ⟨b, off + i * 2 + j, none⟩ = (Ln.lineC (q i))[j]? := by
      intro i hi j hj
      rw [← hq i (by omega) j hj, Addr.add_lit, Nat.add_assoc]
    refine ⟨b, off, rfl, lt_of_cell (a := ⟨b, off + 0 * 2 + 0, none⟩) (hc 0 hpos 0 (by omega)), fun i hi => ?_⟩
    have hi' : i < len := by simpa using hi
    rw [List.getElem_map, List.getElem_range]
    exact ⟨hc i hi' 0 (by omega), hc i hi' 1 (by omega)⟩
end Go.Proofs.YtldfamdjdkaloabDoor
