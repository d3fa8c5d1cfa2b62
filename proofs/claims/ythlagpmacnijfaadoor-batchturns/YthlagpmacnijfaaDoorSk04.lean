/- The settings' names as cells. -/
import Derived.Test.YthlagpmacnijfaaDoorSk03
import Derived.Deep.SlicePairs
import Derived.Test.YthlagpmacnijfaaDoorBatchPlain5
import Derived.Test.YthlagpmacnijfaaDoorBatchMem
import Derived.Test.YthlagpmacnijfaaDoorStructMem
import Derived.Test.YthlagpmacnijfaaDoorSk01
import Derived.Deep.DeepCutAuto
import Derived.Shelf.Strings.OnBuilder
import Derived.Test.YthlagpmacnijfaaDoorProg
import Derived.Test.YthlagpmacnijfaaDoorAddrRef2
import Derived.Test.YthlagpmacnijfaaDoorMemG
import Derived.Deep.WholeRow
import Derived.Deep.RegionHeld3
import Derived.Test.YthlagpmacnijfaaDoorLineMem
import Derived.Test.YthlagpmacnijfaaDoorLinePlain2
import Derived.Lib.Join
import Derived.Laws.MakeOwn
import Derived.Deep.OwnRows
import Derived.Test.YthlagpmacnijfaaDoorBatchPlain
import Derived.Test.YthlagpmacnijfaaDoorRows
import Derived.RowKit
namespace Go.Proofs.YthlagpmacnijfaaDoor
open Go.ChangeShapes Go.WideShapes Go.ChangeAt Go.RowKit Go.Deep

/-- A raw thing: three numbers and a text. -/
structure RawD where
  k : Int
  a : Int
  b : Int
  s : ByteArray
instance : Inhabited RawD := ⟨⟨0, 0, 0, ByteArray.empty⟩⟩
def RawD.ok (r : RawD) : Prop := (-9223372036854775808 ≤ r.k ∧ r.k ≤ 9223372036854775807) ∧ (-9223372036854775808 ≤ r.a ∧ r.a ≤ 9223372036854775807) ∧ (-9223372036854775808 ≤ r.b ∧ r.b ≤ 9223372036854775807)
def RawD.cells (r : RawD) : List Value := [.int .i64 r.k, .int .i64 r.a, .int .i64 r.b, .string r.s]
/-- Raw things lie in memory, behind the slice (a, n). -/
def RawsAt (w : World) (B : Nat) (a : Option Addr) (n : Nat) (l : List RawD) : Prop :=
  l.length = n ∧ (0 < n → ∃ b off, a = some ⟨b, off, none⟩ ∧ b < B ∧ ∀ i (h : i < l.length), w.cell? ⟨b, off + i * 4, none⟩ = some (.int .i64 l[i].k) ∧ w.cell? ⟨b, off + i * 4 + 1, none⟩ = some (.int .i64 l[i].a) ∧ w.cell? ⟨b, off + i * 4 + 2, none⟩ = some (.int .i64 l[i].b) ∧ w.cell? ⟨b, off + i * 4 + 3, none⟩ = some (.string l[i].s))
theorem RawsAt.below {w w' : World} {B n : Nat} {a : Option Addr} {l : List RawD} (h : RawsAt w B a n l) (hb : Below B w w') : RawsAt w' B a n l :=
  ⟨h.1, fun hn => by
    obtain ⟨b, off, e, hlt, hc⟩ := h.2 hn
    exact ⟨b, off, e, hlt, fun i hi => by
      rw [hb.cell (p := ⟨b, off + i * 4, none⟩) hlt, hb.cell (p := ⟨b, off + i * 4 + 1, none⟩) hlt, hb.cell (p := ⟨b, off + i * 4 + 2, none⟩) hlt, hb.cell (p := ⟨b, off + i * 4 + 3, none⟩) hlt]
      exact hc i hi⟩⟩
theorem cells_raw : Tryd.prog.cellsOf 67 = 4 := by kernel_rfl
set_option maxRecDepth 100000 in
theorem open_raw4 {H : Type} {enc : TypeId × Value → H} {W : World} {n : Nat} {cs : List Value} {x : DataW H × List MemPlace} (hl : cs.length = 4)
    (h : DataW.trod enc Tryd.prog W 0 (fun _ => true) true n 67 cs = some x) : ∃ r : RawD, cs = r.cells ∧ r.ok := by
  obtain ⟨xs, m, _, _, _, hxl, hf⟩ := DataW.trod_struct Tryd.underlying67 h
  match xs, hxl, cs, hl with
  | [y0, y1, y2, y3], _, [v0, v1, v2, v3], _ =>
    have g0 := hf 0 _ rfl
    have g1 := hf 1 _ rfl
    have g2 := hf 2 _ rfl
    have g3 := hf 3 _ rfl
    change DataW.trod enc Tryd.prog W 0 (fun _ => true) true m 3 [v0] = some y0 at g0
    change DataW.trod enc Tryd.prog W 0 (fun _ => true) true m 3 [v1] = some y1 at g1
    change DataW.trod enc Tryd.prog W 0 (fun _ => true) true m 3 [v2] = some y2 at g2
    change DataW.trod enc Tryd.prog W 0 (fun _ => true) true m 9 [v3] = some y3 at g3
    obtain ⟨k, e0, _, w0⟩ := DataW.trod_int Tryd.underlying3 g0
    obtain ⟨a, e1, _, w1⟩ := DataW.trod_int Tryd.underlying3 g1
    obtain ⟨b, e2, _, w2⟩ := DataW.trod_int Tryd.underlying3 g2
    obtain ⟨s, e3, _, _⟩ := DataW.trod_string Tryd.underlying9 g3
    injection e0 with e0
    injection e1 with e1
    injection e2 with e2
    injection e3 with e3
    subst e0 e1 e2 e3
    exact ⟨⟨k, a, b, s⟩, rfl, bounds_i64 w0, bounds_i64 w1, bounds_i64 w2⟩
theorem open_raws {H : Type} {enc : TypeId × Value → H} {W : World} {a : Option Addr} {len cap : Nat} {d : DataW H} {p : List MemPlace}
    (h : DataW.Trod enc Tryd.prog W 0 (fun _ => true) true 34 (.slice a len cap) d p) :
    ∃ l : List RawD, RawsAt W W.heap.size a len l ∧ len ≤ cap ∧ cap ≤ maxLen ∧ ∀ r ∈ l, r.ok := by
  obtain ⟨fuel, hf⟩ := h
  rcases open_slice Tryd.underlying34 hf with ⟨hcs, hx⟩ | ⟨x, l, c, m, n, D, Pl, hcs, _, hl, hm, hmm, hx, hall⟩
  · simp [Value.cells] at hcs
    obtain ⟨rfl, rfl, rfl⟩ := hcs
    exact ⟨[], ⟨rfl, fun h => absurd h (by omega)⟩, Nat.le_refl _, Nat.zero_le _, fun _ h => (by cases h)⟩
  · simp [Value.cells] at hcs
    obtain ⟨rfl, rfl, rfl⟩ := hcs
    rw [if_pos rfl] at hmm
    subst hmm
    rw [cells_raw] at hall
    have each : ∀ i, i < m → ∃ r : RawD, (∀ j, j < 4 → W.cell? (x.add (i * 4 + j)) = r.cells[j]?) ∧ r.ok := by
      intro i hi
      obtain ⟨cs', h1, h2⟩ := hall i hi
      obtain ⟨_, hlen, hcell⟩ := World.cells?_some h1
      obtain ⟨r, rfl, hn⟩ := open_raw4 hlen h2
      exact ⟨r, fun j hj => by rw [← add_add]; exact hcell j hj, hn⟩
    obtain ⟨q, hq⟩ := choose_lt each
    refine ⟨(List.range len).map q, ⟨by simp, fun hpos => ?_⟩, hl, hm, ?_⟩
    · obtain ⟨b, off, spot⟩ := x
      have h0 := (hq 0 (by omega)).1 0 (by omega)
      have hspot : spot = none := by simpa [Addr.add] using World.cell?_spot h0
      subst hspot
      have hc : ∀ i (_ : i < len) j (_ : j < 4), W.cell? ⟨b, off + i * 4 + j, none⟩ = (q i).cells[j]? := by
        intro i hi j hj
        rw [← (hq i (by omega)).1 j hj, Addr.add_lit, Nat.add_assoc]
      refine ⟨b, off, rfl, lt_of_cell (a := ⟨b, off + 0 * 4 + 0, none⟩) (hc 0 hpos 0 (by omega)), fun i hi => ?_⟩
      have hi' : i < len := by simpa using hi
      rw [List.getElem_map, List.getElem_range]
      exact ⟨hc i hi' 0 (by omega), hc i hi' 1 (by omega), hc i hi' 2 (by omega), hc i hi' 3 (by omega)⟩
    · intro r hr
      obtain ⟨i, hi, rfl⟩ := List.mem_map.1 hr
      exact (hq i (by have := List.mem_range.1 hi; omega)).2
end Go.Proofs.YthlagpmacnijfaaDoor

namespace Go.Proofs.YthlagpmacnijfaaDoor
namespace Bt
def endOf (i : Nat) : ByteArray := ([⟨#[]⟩, ⟨#[49, 46, 50, 46, 51, 46, 52, 58, 53]⟩, ⟨#[49, 48, 46, 48, 46, 48, 46, 49, 58, 49, 48, 48, 48]⟩, ⟨#[49, 48, 46, 48, 46, 48, 46, 50, 58, 50, 48, 48, 48]⟩, ⟨#[50, 53, 53, 46, 48, 46, 48, 46, 49, 58, 54, 53, 53, 51, 53]⟩] : List ByteArray).getD i ⟨#[]⟩
/-- The kind of a raw thing's setting. -/
def rawK (r : RawD) : Nat := if pick r.b 3 = 0 then (if pick r.a 2 = 0 then 4 else 10) else 1 + pick r.k 10
def rawS (r : RawD) : S :=
  if rawK r = 1 ∨ rawK r = 4 then ⟨rawK r, keyOf (pick r.a 8), 0, 0, 0⟩ else
  if rawK r = 6 then ⟨6, if pick r.b 2 = 0 then ⟨#[]⟩ else keyOf (pick r.a 8), 0, 0, 0⟩ else
  if rawK r = 7 then ⟨7, endOf (1 + pick r.a 4), 0, 0, 0⟩ else
  if rawK r = 2 ∨ rawK r = 8 then ⟨rawK r, ⟨#[]⟩, (pick r.a 65536 : Int), 0, 0⟩ else
  if rawK r = 10 then ⟨10, ⟨#[]⟩, 0, Nt.rawA r.k r.a r.b, (Nt.rawB r.k r.a r.b : Int)⟩ else ⟨rawK r, ⟨#[]⟩, 0, 0, 0⟩
def rawsS (l : List RawD) (m : Nat) : List S := (l.take m).map rawS
theorem rawK_in (r : RawD) : 1 ≤ rawK r ∧ rawK r ≤ 10 := by
  have := pick_lt r.k 10 (by decide)
  unfold rawK
  split
  · split <;> omega
  · omega
theorem end_good (p : Nat) (h : p < 4) : Ad.endErr (endOf (1 + p)).data.toList = 0 ∧ (endOf (1 + p)).size ≤ 15 := by
  have : p = 0 ∨ p = 1 ∨ p = 2 ∨ p = 3 := by omega
  rcases this with rfl | rfl | rfl | rfl <;> decide +kernel
theorem key_zeros (p : Nat) (h : p < 8) : keyOf p ≠ zeros := by
  have : p = 0 ∨ p = 1 ∨ p = 2 ∨ p = 3 ∨ p = 4 ∨ p = 5 ∨ p = 6 ∨ p = 7 := by omega
  rcases this with rfl | rfl | rfl | rfl | rfl | rfl | rfl | rfl <;> decide +kernel
theorem err_text {k : Int} {t : ByteArray} (hk : k = 1 ∨ k = 4) (h : Hx.checkErr t.data.toList = 0) : err ⟨k, t, 0, 0, 0⟩ = 0 := by
  rcases hk with rfl | rfl <;> simp [err, more, fld, h]
theorem err_none {k : Int} (hk : k = 3 ∨ k = 5 ∨ k = 9) : err ⟨k, ⟨#[]⟩, 0, 0, 0⟩ = 0 := by
  rcases hk with rfl | rfl | rfl <;> decide
theorem err_num {k n : Int} (hk : k = 2 ∨ k = 8) (h0 : 0 ≤ n) (h1 : n ≤ 65535) : err ⟨k, ⟨#[]⟩, n, 0, 0⟩ = 0 := by
  have hm : more ⟨k, ⟨#[]⟩, n, 0, 0⟩ = false := by
    have h0 : (⟨#[]⟩ : ByteArray).size = 0 := rfl
    rcases hk with rfl | rfl <;> simp [more, fld] <;> rfl
  unfold err
  simp only
  rw [if_neg (by omega), if_neg (by rw [hm]; decide), if_pos (by rcases hk with rfl | rfl <;> rfl), if_neg (by omega)]
theorem err_net {a : Nat} {b : Int} (h : Nt.err a b = 0) : err ⟨10, ⟨#[]⟩, 0, a, b⟩ = 0 := by
  have hm : more ⟨10, ⟨#[]⟩, 0, a, b⟩ = false := by simp [more, fld] <;> rfl
  unfold err
  simp only
  rw [if_neg (by omega), if_neg (by rw [hm]; decide), if_neg (by decide), if_pos (by decide), h]
theorem err_end {t : ByteArray} (h : Ad.endErr t.data.toList = 0) : err ⟨7, t, 0, 0, 0⟩ = 0 := by
  have hm : more ⟨7, t, 0, 0, 0⟩ = false := by simp [more, fld]
  unfold err
  simp only
  rw [if_neg (by omega), if_neg (by rw [hm]; decide), if_neg (by decide), if_neg (by decide), if_pos trivial, h]
theorem err_shared {t : ByteArray} (h : t.size = 0 ∨ (t ≠ zeros ∧ Hx.checkErr t.data.toList = 0)) : err ⟨6, t, 0, 0, 0⟩ = 0 := by
  have hm : more ⟨6, t, 0, 0, 0⟩ = false := by simp [more, fld]
  unfold err
  simp only
  rw [if_neg (by omega), if_neg (by rw [hm]; decide), if_neg (by decide), if_neg (by decide), if_neg (by decide)]
  by_cases h0 : t.size = 0
  · rw [if_pos ⟨trivial, h0⟩]
  · rw [if_neg (fun e => h0 e.2), if_neg (fun e => by rcases h with h | h; exact h0 h; exact h.1 e.2), if_pos (by decide)]
    rcases h with h | h
    · exact absurd h h0
    · exact h.2
theorem rawS_good (r : RawD) : err (rawS r) = 0 ∧ (rawS r).a < 4294967296 ∧ (rawS r).t.size ≤ 64 ∧ 0 ≤ (rawS r).n ∧ (rawS r).n ≤ 65535 := by
  obtain ⟨h1, h2⟩ := rawK_in r
  have hp := pick_lt r.a 8 (by decide)
  obtain ⟨g1, g2⟩ := keyOf_good (pick r.a 8) hp
  have hz := key_zeros (pick r.a 8) hp
  obtain ⟨e1, e2⟩ := end_good (pick r.a 4) (pick_lt r.a 4 (by decide))
  have hn := pick_lt r.a 65536 (by decide)
  obtain ⟨n1, n2, n3⟩ := raw_good r.k r.a r.b
  have hem : (⟨#[]⟩ : ByteArray).size = 0 := rfl
  unfold rawS
  generalize rawK r = k at *
  by_cases c1 : k = 1 ∨ k = 4
  · rw [if_pos c1]
    exact ⟨err_text (by omega) g2, by show (0 : Nat) < _; omega, by show (keyOf _).size ≤ _; omega, by show (0 : Int) ≤ 0; omega, by show (0 : Int) ≤ _; omega⟩
  rw [if_neg c1]
  by_cases c2 : k = 6
  · rw [if_pos c2]
    refine ⟨err_shared ?_, by show (0 : Nat) < _; omega, ?_, by show (0 : Int) ≤ 0; omega, by show (0 : Int) ≤ _; omega⟩
    · split
      · exact .inl rfl
      · exact .inr ⟨hz, g2⟩
    · simp only
      split <;> omega
  rw [if_neg c2]
  by_cases c3 : k = 7
  · rw [if_pos c3]
    exact ⟨err_end e1, by show (0 : Nat) < _; omega, by show (endOf _).size ≤ _; omega, by show (0 : Int) ≤ 0; omega, by show (0 : Int) ≤ _; omega⟩
  rw [if_neg c3]
  by_cases c4 : k = 2 ∨ k = 8
  · rw [if_pos c4]
    exact ⟨err_num (by omega) (by omega) (by omega), by show (0 : Nat) < _; omega, by show (0 : Nat) ≤ _; omega, by show (0 : Int) ≤ (_ : Nat); omega, by show ((_ : Nat) : Int) ≤ _; omega⟩
  rw [if_neg c4]
  by_cases c5 : k = 10
  · rw [if_pos c5]
    exact ⟨err_net n3, n1, by show (0 : Nat) ≤ _; omega, by show (0 : Int) ≤ 0; omega, by show (0 : Int) ≤ _; omega⟩
  rw [if_neg c5]
  exact ⟨err_none (by omega), by show (0 : Nat) < _; omega, by show (0 : Nat) ≤ _; omega, by show (0 : Int) ≤ 0; omega, by show (0 : Int) ≤ _; omega⟩
theorem rawsS_step (l : List RawD) (m k : Nat) (hk : k < l.length) (hm : k < m) : rawsS (l.take (k + 1)) m = rawsS (l.take k) m ++ [rawS l[k]] := by
  unfold rawsS
  rw [List.take_take, List.take_take, Nat.min_eq_right (by omega), Nat.min_eq_right (by omega), List.take_succ_eq_append_getElem hk, List.map_append, List.map_singleton]
end Bt
end Go.Proofs.YthlagpmacnijfaaDoor

namespace Go.Proofs.YthlagpmacnijfaaDoor
open Go.RowKit

theorem Blk.facts4 {w : World} {g : Nat} {t : TypeId} {x0 x1 x2 x3 : Value} (h : Blk w g t [x0, x1, x2, x3]) :
    (w.cell? ⟨g, 0, none⟩ = some x0 ∧ w.cell? ⟨g, 1, none⟩ = some x1 ∧ w.cell? ⟨g, 2, none⟩ = some x2 ∧ w.cell? ⟨g, 3, none⟩ = some x3) ∧
    (w.frozen? ⟨g, 0, none⟩ = false ∧ w.frozen? ⟨g, 1, none⟩ = false ∧ w.frozen? ⟨g, 2, none⟩ = false ∧ w.frozen? ⟨g, 3, none⟩ = false) := by
  have h5 : 4 ≤ maxLen := by decide
  exact ⟨⟨h.cell 0 rfl, h.cell 1 rfl, h.cell 2 rfl, h.cell 3 rfl⟩, ⟨h.frozen h5 0, h.frozen h5 1, h.frozen h5 2, h.frozen h5 3⟩⟩
namespace Bt
/-- A raw thing's setting, kind by kind. -/
theorem rawS_of (r : RawD) : ∃ K : Nat, (if pick r.b 3 = 0 then K = (if pick r.a 2 = 0 then 4 else 10) else K = 1 + pick r.k 10) ∧
    (K = 1 ∨ K = 4 → rawS r = ⟨(K : Int), keyOf (pick r.a 8), 0, 0, 0⟩) ∧ (K = 6 → rawS r = ⟨6, if pick r.b 2 = 0 then ⟨#[]⟩ else keyOf (pick r.a 8), 0, 0, 0⟩) ∧
    (K = 7 → rawS r = ⟨7, endOf (1 + pick r.a 4), 0, 0, 0⟩) ∧ (K = 2 ∨ K = 8 → rawS r = ⟨(K : Int), ⟨#[]⟩, (pick r.a 65536 : Int), 0, 0⟩) ∧
    (K = 10 → rawS r = ⟨10, ⟨#[]⟩, 0, Nt.rawA r.k r.a r.b, (Nt.rawB r.k r.a r.b : Int)⟩) ∧ (K = 3 ∨ K = 5 ∨ K = 9 → rawS r = ⟨(K : Int), ⟨#[]⟩, 0, 0, 0⟩) := by
  refine ⟨rawK r, ?_, ?_, ?_, ?_, ?_, ?_, ?_⟩
  · unfold rawK
    split <;> rfl
  all_goals
    intro h
    unfold rawS
  · rw [if_pos h]
  · rw [if_neg (by omega), if_pos h]
  · rw [if_neg (by omega), if_neg (by omega), if_pos h]
  · rw [if_neg (by omega), if_neg (by omega), if_neg (by omega), if_pos h]
  · rw [if_neg (by omega), if_neg (by omega), if_neg (by omega), if_neg (by omega), if_pos h]
  · rw [if_neg (by omega), if_neg (by omega), if_neg (by omega), if_neg (by omega), if_neg (by omega)]
end Bt
def spec14 (G : Nat) (rk ra rb : Int) (rs KY XT : ByteArray) (q2 : Nat) (j : Nat) (v : Value) (W : World) : Prop :=
  match j with
  | 0 => v = .pointer (some ⟨G, 1, none⟩) ∧ Blk W G 67 [.int .i64 rk, .int .i64 ra, .int .i64 rb, .string rs]
  | 1 => v = .int .i64 ra
  | 2 => v = .string KY
  | 3 => ∃ g, v = .slice (some ⟨g, 0, none⟩) 2 2 ∧ Blk W g 9 [.string ⟨#[]⟩, .string KY]
  | 4 => v = .pointer (some ⟨G, 2, none⟩) ∧ Blk W G 67 [.int .i64 rk, .int .i64 ra, .int .i64 rb, .string rs]
  | 5 => v = .int .i64 rb
  | 6 => v = .int .i64 (q2 : Int)
  | 7 => ∃ g, v = .pointer (some ⟨g, q2, none⟩) ∧ Blk W g 9 [.string ⟨#[]⟩, .string KY]
  | 8 => v = .string XT
  | 9 => v = .pointer (some ⟨G + 1, 1, none⟩)
  | _ => True
theorem spec14_kept {G : Nat} {rk ra rb : Int} {rs KY XT : ByteArray} {q2 : Nat} {j : Nat} {v : Value} {W W' : World} (hb : Below W.heap.size W W') (h : spec14 G rk ra rb rs KY XT q2 j v W) : spec14 G rk ra rb rs KY XT q2 j v W' := by
  unfold spec14 at *
  split at h
  · exact ⟨h.1, h.2.kept hb⟩
  · exact h
  · exact h
  · obtain ⟨g, h1, h2⟩ := h; exact ⟨g, h1, h2.kept hb⟩
  · exact ⟨h.1, h.2.kept hb⟩
  · exact h
  · exact h
  · obtain ⟨g, h1, h2⟩ := h; exact ⟨g, h1, h2.kept hb⟩
  · exact h
  · exact h
  · exact h
def spec14Dst (i : Nat) : Option Nat := ([some 46, some 47, some 48, some 49, some 50, some 51, some 52, some 53, some 54, some 55, none] : List (Option Nat)).getD i none
theorem spec14_dist (i j : Nat) (h : i < j) (hj : j < 11) : spec14Dst i = none ∨ spec14Dst i ≠ spec14Dst j := (by decide : ∀ j, j < 11 → ∀ i, i < j → (spec14Dst i = none ∨ spec14Dst i ≠ spec14Dst j)) j hj i h
theorem spec14_in (i d : Nat) (hi : i < 11) (hd : spec14Dst i = some d) : 46 ≤ d ∧ d ≤ 55 := by
  have h := (by decide : ∀ i, i < 11 → (46 ≤ (spec14Dst i).getD 46 ∧ (spec14Dst i).getD 0 ≤ 55)) i hi
  rw [hd] at h
  exact h
theorem spec14_put (F : Nat → Value) (a0 : Act) : putAll spec14Dst F a0 11 = ((((((((((a0.put (some 46) (F 0)).put (some 47) (F 1)).put (some 48) (F 2)).put (some 49) (F 3)).put (some 50) (F 4)).put (some 51) (F 5)).put (some 52) (F 6)).put (some 53) (F 7)).put (some 54) (F 8)).put (some 55) (F 9)) := by
  rw [putAll_none 11 10 rfl rfl, putAll_some 10 9 55 _ rfl rfl rfl, putAll_some 9 8 54 _ rfl rfl rfl, putAll_some 8 7 53 _ rfl rfl rfl, putAll_some 7 6 52 _ rfl rfl rfl, putAll_some 6 5 51 _ rfl rfl rfl, putAll_some 5 4 50 _ rfl rfl rfl, putAll_some 4 3 49 _ rfl rfl rfl, putAll_some 3 2 48 _ rfl rfl rfl, putAll_some 2 1 47 _ rfl rfl rfl, putAll_some 1 0 46 _ rfl rfl rfl]
  rfl
def endCells : List Value := [.string ⟨#[]⟩, .string ⟨#[49, 46, 50, 46, 51, 46, 52, 58, 53]⟩, .string ⟨#[49, 48, 46, 48, 46, 48, 46, 49, 58, 49, 48, 48, 48]⟩, .string ⟨#[49, 48, 46, 48, 46, 48, 46, 50, 58, 50, 48, 48, 48]⟩, .string ⟨#[50, 53, 53, 46, 48, 46, 48, 46, 49, 58, 54, 53, 53, 51, 53]⟩]
theorem endCells_at (k : Nat) (h : k < 5) : endCells[k]? = some (.string (Bt.endOf k)) := by
  have : k = 0 ∨ k = 1 ∨ k = 2 ∨ k = 3 ∨ k = 4 := by omega
  rcases this with rfl | rfl | rfl | rfl | rfl <;> rfl
set_option maxHeartbeats 400000 in
theorem keep_ends (w : World) : Calls Tryd.prog 35 #[] w fun e w' => e = .returned (.slice (some ⟨w.heap.size, 0, none⟩) 5 5) ∧ Blk w' w.heap.size 9 endCells ∧ Below w.heap.size w w' := by
  go_enter Tryd.func35, Tryd.ntmps35
  go_wp2
  go_ret
  exact ⟨rfl, Blk.new w 9 endCells, (Below.refl _ _).alloc (Nat.le_refl _) _⟩
def spec16 (G : Nat) (rk ra rb : Int) (rs XT : ByteArray) (p4 : Nat) (j : Nat) (v : Value) (W : World) : Prop :=
  match j with
  | 0 => ∃ g, v = .slice (some ⟨g, 0, none⟩) 5 5 ∧ Blk W g 9 endCells
  | 1 => v = .pointer (some ⟨G, 1, none⟩) ∧ Blk W G 67 [.int .i64 rk, .int .i64 ra, .int .i64 rb, .string rs]
  | 2 => v = .int .i64 ra
  | 3 => ∃ g, v = .slice (some ⟨g, 0, none⟩) 5 5 ∧ Blk W g 9 endCells
  | 4 => v = .int .i64 5
  | 5 => v = .int .i64 4
  | 6 => v = .int .i64 (p4 : Int)
  | 7 => v = .int .i64 ((1 + p4 : Nat) : Int)
  | 8 => ∃ g, v = .pointer (some ⟨g, 1 + p4, none⟩) ∧ Blk W g 9 endCells
  | 9 => v = .string XT
  | 10 => v = .pointer (some ⟨G + 1, 1, none⟩)
  | _ => True
theorem spec16_kept {G : Nat} {rk ra rb : Int} {rs XT : ByteArray} {p4 : Nat} {j : Nat} {v : Value} {W W' : World} (hb : Below W.heap.size W W') (h : spec16 G rk ra rb rs XT p4 j v W) : spec16 G rk ra rb rs XT p4 j v W' := by
  unfold spec16 at *
  split at h
  · obtain ⟨g, h1, h2⟩ := h; exact ⟨g, h1, h2.kept hb⟩
  · exact ⟨h.1, h.2.kept hb⟩
  · exact h
  · obtain ⟨g, h1, h2⟩ := h; exact ⟨g, h1, h2.kept hb⟩
  · exact h
  · exact h
  · exact h
  · exact h
  · obtain ⟨g, h1, h2⟩ := h; exact ⟨g, h1, h2.kept hb⟩
  · exact h
  · exact h
  · exact h
def spec16Dst (i : Nat) : Option Nat := ([some 58, some 59, some 60, some 61, some 62, some 63, some 64, some 65, some 66, some 67, some 68, none] : List (Option Nat)).getD i none
theorem spec16_dist (i j : Nat) (h : i < j) (hj : j < 12) : spec16Dst i = none ∨ spec16Dst i ≠ spec16Dst j := (by decide : ∀ j, j < 12 → ∀ i, i < j → (spec16Dst i = none ∨ spec16Dst i ≠ spec16Dst j)) j hj i h
theorem spec16_in (i d : Nat) (hi : i < 12) (hd : spec16Dst i = some d) : 58 ≤ d ∧ d ≤ 68 := by
  have h := (by decide : ∀ i, i < 12 → (58 ≤ (spec16Dst i).getD 58 ∧ (spec16Dst i).getD 0 ≤ 68)) i hi
  rw [hd] at h
  exact h
theorem spec16_put (F : Nat → Value) (a0 : Act) : putAll spec16Dst F a0 12 = (((((((((((a0.put (some 58) (F 0)).put (some 59) (F 1)).put (some 60) (F 2)).put (some 61) (F 3)).put (some 62) (F 4)).put (some 63) (F 5)).put (some 64) (F 6)).put (some 65) (F 7)).put (some 66) (F 8)).put (some 67) (F 9)).put (some 68) (F 10)) := by
  rw [putAll_none 12 11 rfl rfl, putAll_some 11 10 68 _ rfl rfl rfl, putAll_some 10 9 67 _ rfl rfl rfl, putAll_some 9 8 66 _ rfl rfl rfl, putAll_some 8 7 65 _ rfl rfl rfl, putAll_some 7 6 64 _ rfl rfl rfl, putAll_some 6 5 63 _ rfl rfl rfl, putAll_some 5 4 62 _ rfl rfl rfl, putAll_some 4 3 61 _ rfl rfl rfl, putAll_some 3 2 60 _ rfl rfl rfl, putAll_some 2 1 59 _ rfl rfl rfl, putAll_some 1 0 58 _ rfl rfl rfl]
  rfl
end Go.Proofs.YthlagpmacnijfaaDoor

namespace Go.Proofs.YthlagpmacnijfaaDoor
open Go.RowKit

set_option maxRecDepth 20000 in
set_option maxHeartbeats 1000000 in
theorem keep_Settings (a : Option Addr) (n c m : Nat) (l : List RawD) (w : World) (h : RawsAt w w.heap.size a n l) (hn : n ≤ maxLen) (hm : m ≤ 1000000) (hok : ∀ r ∈ l, r.ok) :
    Calls Tryd.prog 11 #[.slice a n c, .int .i64 (m : Int)] w fun e w' => (∃ v, e = .returned v ∧ OwnS w' w.heap.size v (Bt.rawsS l m)) ∧ Below w.heap.size w w' := by
  unfold maxLen at hn
  have hl := h.1
  have H := Lib.hid h
  have Hok := Lib.hid hok
  clear h hok
  go_enter Tryd.func11, Tryd.ntmps11
  go_wp2
  go_loopw [5, 11] (fun v i wr => ∃ k : Nat, k ≤ n ∧ i = .int .i64 k ∧ Hid (OwnS wr w.heap.size v (Bt.rawsS (l.take k) m)) ∧ Hid (Below w.heap.size w wr)) (fun _ i _ => n - (intOf i).toNat)
  case atStart => exact ⟨0, Nat.zero_le _, rfl, Lib.hid (by rw [show Bt.rawsS (l.take 0) m = [] by unfold Bt.rawsS; simp]; exact OwnS.nil _ _), Lib.hid (Below.refl _ _)⟩
  case round =>
    obtain ⟨k, hk, rfl, HO, HBr⟩ := hrel
    obtain ⟨wo, hwo⟩ : ∃ wo, wo = wr := ⟨_, rfl⟩
    subst hwo
    have hsz := HBr.out.size
    by_cases hlt : k < n
    · have hkl : k < l.length := by omega
      obtain ⟨b, off, rfl, hbl, hc⟩ := (H.out.below HBr.out).2 (by omega)
      obtain ⟨c0, c1, c2, c3⟩ := hc k hkl
      by_cases hkm : k < m
      · have ikm : (k : Int) < (m : Int) := by omega
        have Hst := Lib.hid (Bt.rawsS_step l m k hkl hkm)
        have Hr := Lib.hid (Hok.out l[k] (List.getElem_mem hkl))
        have hDl : Hid ((Bt.rawsS (l.take k) m).length ≤ 1000000) := Lib.hid (by unfold Bt.rawsS; rw [List.length_map, List.length_take]; omega)
        clear hc hkm
        generalize l[k] = r at *
        have HX := Lib.hid (Bt.rawS_of r)
        generalize Bt.rawsS (l.take k) m = D at *
        have HP10 := Lib.hid (fun W => keep_picked r.k 10 W Hr.out.1.1 Hr.out.1.2 (by decide) (by decide))
        have HP3 := Lib.hid (fun W => keep_picked r.b 3 W Hr.out.2.2.1 Hr.out.2.2.2 (by decide) (by decide))
        have HP2 := Lib.hid (fun W => keep_picked r.a 2 W Hr.out.2.1.1 Hr.out.2.1.2 (by decide) (by decide))
        have HQ2 := Lib.hid (fun W => keep_picked r.b 2 W Hr.out.2.2.1 Hr.out.2.2.2 (by decide) (by decide))
        have HP4 := Lib.hid (fun W => keep_picked r.a 4 W Hr.out.2.1.1 Hr.out.2.1.2 (by decide) (by decide))
        have HPN := Lib.hid (fun W => keep_picked r.a 65536 W Hr.out.2.1.1 Hr.out.2.1.2 (by decide) (by decide))
        have HKY := Lib.hid (fun W => keep_Key r.a W Hr.out.2.1.1 Hr.out.2.1.2)
        have HNT := Lib.hid (fun W => keep_Net r.k r.a r.b r.s W Hr.out.1.1 Hr.out.1.2 Hr.out.2.1.1 Hr.out.2.1.2 Hr.out.2.2.1 Hr.out.2.2.2)
        have h10 := pick_lt r.k 10 (by decide)
        have h3 := pick_lt r.b 3 (by decide)
        have h2 := pick_lt r.a 2 (by decide)
        have g2 := pick_lt r.b 2 (by decide)
        have h4 := pick_lt r.a 4 (by decide)
        have hN := pick_lt r.a 65536 (by decide)
        generalize Bt.rawS r = X at *
        obtain ⟨rk, ra, rb, rs⟩ := r
        simp only at HP10 HP3 HP2 HQ2 HP4 HPN HKY HNT h10 h3 h2 g2 h4 hN HX c0 c1 c2 c3
        generalize pick rk 10 = p10 at *
        generalize pick rb 3 = p3 at *
        generalize pick ra 2 = p2 at *
        generalize pick rb 2 = q2 at *
        generalize pick ra 4 = p4 at *
        generalize pick ra 65536 = pN at *
        generalize keyOf (pick ra 8) = KY at *
        generalize Nt.rawA rk ra rb = NA at *
        generalize Nt.rawB rk ra rb = NB at *
        unfold rawV netV at HNT
        clear Hr
        go_upto_region 6 with fail
        go_wp2_with fail
        refine (HP10.out _).mono ?_
        rintro e wx ⟨rfl, hwx⟩
        rw [← hwx]
        clear hwx wx
        go_upto_region 7 with fail
        have HOW : Hid (∀ W, Below wo.heap.size wo W → OwnS W w.heap.size u5 D ∧ Below w.heap.size w W) := Lib.hid (fun W hW => ⟨HO.out.below hW, HBr.out.trans (hW.mono hsz)⟩)
        obtain ⟨w1, hw1⟩ : ∃ w1, w1 = ((wo.alloc (.cells #[.int .i64 rk, .int .i64 ra, .int .i64 rb, .string rs] 67)).alloc (.cells #[.int .i64 (1 + (p10 : Int)), .string ⟨#[]⟩, .int .i64 0, .int .u32 0, .int .i64 0] 26)) := ⟨_, rfl⟩
        have HR : Hid (Blk w1 wo.heap.size 67 [.int .i64 rk, .int .i64 ra, .int .i64 rb, .string rs]) := Lib.hid (by
          rw [hw1]
          exact (Blk.new wo 67 [.int .i64 rk, .int .i64 ra, .int .i64 rb, .string rs]).kept ((Below.refl _ _).alloc (Nat.le_refl _) _))
        have HS : Hid (Blk w1 (wo.heap.size + 1) 26 [.int .i64 (1 + (p10 : Int)), .string ⟨#[]⟩, .int .i64 0, .int .u32 0, .int .i64 0]) := Lib.hid (by
          have := Blk.new (wo.alloc (.cells #[.int .i64 rk, .int .i64 ra, .int .i64 rb, .string rs] 67)) 26 [.int .i64 (1 + (p10 : Int)), .string ⟨#[]⟩, .int .i64 0, .int .u32 0, .int .i64 0]
          rw [show (wo.alloc (.cells #[.int .i64 rk, .int .i64 ra, .int .i64 rb, .string rs] 67)).heap.size = wo.heap.size + 1 by simp] at this
          rw [hw1]
          exact this)
        have HB : Hid (Below wo.heap.size wo w1) := Lib.hid (by
          rw [hw1]
          exact ((Below.refl _ _).alloc (Nat.le_refl _) _).alloc (by simp) _)
        rw [← hw1]
        have HGs : Hid (∀ W, Below wo.heap.size wo W → wo.heap.size ≤ W.heap.size) := Lib.hid (fun W hW => hW.size)
        clear hw1 c0 c1 c2 c3 HBr HO hsz
        generalize wo.heap.size = G at *
        obtain ⟨⟨r0, r1, r2, r3⟩, -⟩ := HR.out.facts4
        obtain ⟨⟨s0, -, -, -, -⟩, ⟨f0, -, -, -, -⟩⟩ := HS.out.facts5
        go_wp2_with fail
        refine (HP3.out _).mono ?_
        rintro e wx ⟨rfl, hwx⟩
        rw [← hwx]
        clear hwx wx HP10 HP3
        obtain ⟨K, hK, X1, X6, X7, X2, X10, X3⟩ := HX.out
        clear HX
        have HK := Lib.hid hK
        have hK10 : Hid (1 ≤ K ∧ K ≤ 10) := Lib.hid (by
          by_cases h0 : p3 = 0
          · rw [if_pos h0] at hK
            split at hK <;> omega
          · rw [if_neg h0] at hK
            omega)
        have HX := Lib.hid (And.intro X1 (And.intro X6 (And.intro X7 (And.intro X2 (And.intro X10 X3)))))
        clear hK X1 X6 X7 X2 X10 X3
        go_upto_if 27 with fail
        go_cut [] (fun wx => Hid (Blk wx G 67 [.int .i64 rk, .int .i64 ra, .int .i64 rb, .string rs] ∧ Blk wx (G + 1) 26 [.int .i64 (K : Int), .string ⟨#[]⟩, .int .i64 0, .int .u32 0, .int .i64 0] ∧ Below G wo wx))
        case first =>
          by_cases h0 : p3 = 0
          · have q0 : ((p3 : Int) == 0) = true := by rw [h0]; rfl
            have HK0 : Hid (K = if p2 = 0 then 4 else 10) := Lib.hid (by have := HK.out; rw [if_pos h0] at this; exact this)
            obtain ⟨w2, hw2⟩ : ∃ w2, w2 = w1.alloc (.cells #[.int .i64 4, .int .i64 10] 3) := ⟨_, rfl⟩
            have hb2 : Below w1.heap.size w1 w2 := by rw [hw2]; exact (Below.refl _ _).alloc (Nat.le_refl _) _
            have hE : w2.cell? ⟨w1.heap.size, p2, none⟩ = some (.int .i64 (K : Int)) := by
              have hN := Blk.new w1 3 [.int .i64 4, .int .i64 10]
              rw [hw2, HK0.out]
              by_cases hp : p2 = 0
              · rw [if_pos hp, hp]; exact hN.cell 0 rfl
              · rw [if_neg hp, show p2 = 1 by omega]; exact hN.cell 1 rfl
            have HR2 := Lib.hid (HR.out.kept hb2)
            have HS2 := Lib.hid (HS.out.kept hb2)
            have HB2 := Lib.hid (HB.out.trans (hb2.mono (Nat.le_of_lt HR.out.lt)))
            obtain ⟨⟨x0, x1, x2, x3⟩, -⟩ := HR2.out.facts4
            obtain ⟨⟨z0, -, -, -, -⟩, ⟨y0, -, -, -, -⟩⟩ := HS2.out.facts5
            have HC : Hid (Blk (w2.setCell ⟨G + 1, 0, none⟩ (.int .i64 (K : Int))) G 67 [.int .i64 rk, .int .i64 ra, .int .i64 rb, .string rs] ∧ Blk (w2.setCell ⟨G + 1, 0, none⟩ (.int .i64 (K : Int))) (G + 1) 26 [.int .i64 (K : Int), .string ⟨#[]⟩, .int .i64 0, .int .u32 0, .int .i64 0] ∧ Below G wo (w2.setCell ⟨G + 1, 0, none⟩ (.int .i64 (K : Int)))) := Lib.hid ⟨HR2.out.other (by omega) _, HS2.out.set (show 5 ≤ maxLen by decide) 0 _, HB2.out.setCell (by show G ≤ G + 1; omega) _⟩
            rw [hw2] at hE x0 x1 x2 x3 y0 z0 HC
            clear h0 hw2 hb2 w2 HR2 HS2 HB2 r0 r1 r2 r3 s0 f0
            go_wp2_with fail
            refine (HP2.out _).mono ?_
            rintro e wx ⟨rfl, hwx⟩
            rw [← hwx]
            clear hwx wx
            go_wp2_with fail
            go_meet
            case rel => exact HC
          · have q0 : ((p3 : Int) == 0) = false := by simpa using h0
            have HK0 : Hid (K = 1 + p10) := Lib.hid (by have := HK.out; rw [if_neg h0] at this; exact this)
            have HC : Hid (Blk w1 G 67 [.int .i64 rk, .int .i64 ra, .int .i64 rb, .string rs] ∧ Blk w1 (G + 1) 26 [.int .i64 (K : Int), .string ⟨#[]⟩, .int .i64 0, .int .u32 0, .int .i64 0] ∧ Below G wo w1) := Lib.hid ⟨HR.out, by rw [HK0.out, show ((1 + p10 : Nat) : Int) = 1 + (p10 : Int) by omega]; exact HS.out, HB.out⟩
            clear h0
            go_wp2_with fail
            go_meet
            case rel => exact HC
        case rest =>
          clear HP2 HK HR HS HB r0 r1 r2 r3 s0 f0 h10 h3 h2
          have HR := Lib.hid hcut.out.1
          have HS := Lib.hid hcut.out.2.1
          have HB := Lib.hid hcut.out.2.2
          clear hcut
          obtain ⟨⟨r0, r1, r2, r3⟩, -⟩ := HR.out.facts4
          obtain ⟨⟨s0, -, -, -, -⟩, ⟨f0, f1, f2, f3, f4⟩⟩ := HS.out.facts5
          go_upto_block 2 with fail
          go_cut [] (fun wx => Hid (Blk wx (G + 1) 26 (Bt.setC X) ∧ Below G wo wx))
          case first =>
            have hcs : (K : Int) = 1 ∨ (K : Int) = 2 ∨ (K : Int) = 3 ∨ (K : Int) = 4 ∨ (K : Int) = 5 ∨ (K : Int) = 6 ∨ (K : Int) = 7 ∨ (K : Int) = 8 ∨ (K : Int) = 9 ∨ (K : Int) = 10 := by have := hK10.out; omega
            rcases hcs with h | h | h | h | h | h | h | h | h | h
            · have hk : K = 1 := by omega
              have hX := HX.out.1 (by omega)
              have d1 : ((K : Int) == 1) = true := by rw [h]; rfl
              have d4 : ((K : Int) == 4) = false := by rw [h]; rfl
              have d6 : ((K : Int) == 6) = false := by rw [h]; rfl
              have d7 : ((K : Int) == 7) = false := by rw [h]; rfl
              have d2 : ((K : Int) == 2) = false := by rw [h]; rfl
              have d8 : ((K : Int) == 8) = false := by rw [h]; rfl
              have d10 : ((K : Int) == 10) = false := by rw [h]; rfl
              clear h hk HX HNT HPN HP4 HQ2
              go_wp2_with fail
              refine (HKY.out wc).mono ?_
              rintro e w3 ⟨rfl, hb3⟩
              have HS3 := Lib.hid (HS.out.kept hb3)
              obtain ⟨⟨-, z1, -, -, -⟩, ⟨-, y1, -, -, -⟩⟩ := HS3.out.facts5
              have HC : Hid (Blk (w3.setCell ⟨G + 1, 1, none⟩ (.string KY)) (G + 1) 26 (Bt.setC X) ∧ Below G wo (w3.setCell ⟨G + 1, 1, none⟩ (.string KY))) := Lib.hid ⟨by rw [hX]; exact HS3.out.set (show 5 ≤ maxLen by decide) 1 _, (HB.out.trans (hb3.mono (Nat.le_of_lt HR.out.lt))).setCell (by show G ≤ G + 1; omega) _⟩
              clear hb3 HS3 hX
              go_wp2_with fail
              go_meet
              case rel => exact HC
            · have hk : K = 2 := by omega
              have hX := HX.out.2.2.2.1 (by omega)
              have d1 : ((K : Int) == 1) = false := by rw [h]; rfl
              have d4 : ((K : Int) == 4) = false := by rw [h]; rfl
              have d6 : ((K : Int) == 6) = false := by rw [h]; rfl
              have d7 : ((K : Int) == 7) = false := by rw [h]; rfl
              have d2 : ((K : Int) == 2) = true := by rw [h]; rfl
              have d8 : ((K : Int) == 8) = false := by rw [h]; rfl
              have d10 : ((K : Int) == 10) = false := by rw [h]; rfl
              have HC : Hid (Blk (wc.setCell ⟨G + 1, 2, none⟩ (.int .i64 (pN : Int))) (G + 1) 26 (Bt.setC X) ∧ Below G wo (wc.setCell ⟨G + 1, 2, none⟩ (.int .i64 (pN : Int)))) := Lib.hid ⟨by rw [hX]; exact HS.out.set (show 5 ≤ maxLen by decide) 2 _, HB.out.setCell (by show G ≤ G + 1; omega) _⟩
              obtain ⟨⟨-, -, z2, -, -⟩, -⟩ := HS.out.facts5
              clear h hk HX HNT HP4 HQ2 HKY hX
              go_wp2_with fail
              refine (HPN.out _).mono ?_
              rintro e wx ⟨rfl, hwx⟩
              rw [← hwx]
              clear hwx wx
              go_wp2_with fail
              go_meet
              case rel => exact HC
            · have hk : K = 3 := by omega
              have hX := HX.out.2.2.2.2.2 (by omega)
              have d1 : ((K : Int) == 1) = false := by rw [h]; rfl
              have d4 : ((K : Int) == 4) = false := by rw [h]; rfl
              have d6 : ((K : Int) == 6) = false := by rw [h]; rfl
              have d7 : ((K : Int) == 7) = false := by rw [h]; rfl
              have d2 : ((K : Int) == 2) = false := by rw [h]; rfl
              have d8 : ((K : Int) == 8) = false := by rw [h]; rfl
              have d10 : ((K : Int) == 10) = false := by rw [h]; rfl
              have HC : Hid (Blk wc (G + 1) 26 (Bt.setC X) ∧ Below G wo wc) := Lib.hid ⟨by rw [hX]; exact HS.out, HB.out⟩
              clear h hk HX HNT HPN HP4 HQ2 HKY hX
              go_wp2_with fail
              go_meet
              case rel => exact HC
            · have hk : K = 4 := by omega
              have hX := HX.out.1 (by omega)
              have d1 : ((K : Int) == 1) = false := by rw [h]; rfl
              have d4 : ((K : Int) == 4) = true := by rw [h]; rfl
              have d6 : ((K : Int) == 6) = false := by rw [h]; rfl
              have d7 : ((K : Int) == 7) = false := by rw [h]; rfl
              have d2 : ((K : Int) == 2) = false := by rw [h]; rfl
              have d8 : ((K : Int) == 8) = false := by rw [h]; rfl
              have d10 : ((K : Int) == 10) = false := by rw [h]; rfl
              clear h hk HX HNT HPN HP4 HQ2
              go_wp2_with fail
              refine (HKY.out wc).mono ?_
              rintro e w3 ⟨rfl, hb3⟩
              have HS3 := Lib.hid (HS.out.kept hb3)
              obtain ⟨⟨-, z1, -, -, -⟩, ⟨-, y1, -, -, -⟩⟩ := HS3.out.facts5
              have HC : Hid (Blk (w3.setCell ⟨G + 1, 1, none⟩ (.string KY)) (G + 1) 26 (Bt.setC X) ∧ Below G wo (w3.setCell ⟨G + 1, 1, none⟩ (.string KY))) := Lib.hid ⟨by rw [hX]; exact HS3.out.set (show 5 ≤ maxLen by decide) 1 _, (HB.out.trans (hb3.mono (Nat.le_of_lt HR.out.lt))).setCell (by show G ≤ G + 1; omega) _⟩
              clear hb3 HS3 hX
              go_wp2_with fail
              go_meet
              case rel => exact HC
            · have hk : K = 5 := by omega
              have hX := HX.out.2.2.2.2.2 (by omega)
              have d1 : ((K : Int) == 1) = false := by rw [h]; rfl
              have d4 : ((K : Int) == 4) = false := by rw [h]; rfl
              have d6 : ((K : Int) == 6) = false := by rw [h]; rfl
              have d7 : ((K : Int) == 7) = false := by rw [h]; rfl
              have d2 : ((K : Int) == 2) = false := by rw [h]; rfl
              have d8 : ((K : Int) == 8) = false := by rw [h]; rfl
              have d10 : ((K : Int) == 10) = false := by rw [h]; rfl
              have HC : Hid (Blk wc (G + 1) 26 (Bt.setC X) ∧ Below G wo wc) := Lib.hid ⟨by rw [hX]; exact HS.out, HB.out⟩
              clear h hk HX HNT HPN HP4 HQ2 HKY hX
              go_wp2_with fail
              go_meet
              case rel => exact HC
            · have hk : K = 6 := by omega
              have hX0 := HX.out.2.1 (by omega)
              rw [← h] at hX0
              have d1 : ((K : Int) == 1) = false := by rw [h]; rfl
              have d4 : ((K : Int) == 4) = false := by rw [h]; rfl
              have d6 : ((K : Int) == 6) = true := by rw [h]; rfl
              have d7 : ((K : Int) == 7) = false := by rw [h]; rfl
              have d2 : ((K : Int) == 2) = false := by rw [h]; rfl
              have d8 : ((K : Int) == 8) = false := by rw [h]; rfl
              have d10 : ((K : Int) == 10) = false := by rw [h]; rfl
              obtain ⟨XT, hXT⟩ : ∃ XT : ByteArray, XT = if q2 = (0 : Nat) then (⟨#[]⟩ : ByteArray) else KY := ⟨_, rfl⟩
              rw [← hXT] at hX0
              have hX := Lib.hid hX0
              have HXT : Hid (([.string ⟨#[]⟩, .string KY] : List Value)[q2]? = some (.string XT)) := Lib.hid (by
                rw [hXT]
                by_cases hq : q2 = 0
                · rw [if_pos hq, hq]; rfl
                · rw [if_neg hq, show q2 = 1 by omega]; rfl)
              have G2 := Lib.hid g2
              clear h hk HX HNT HPN HP4 hX0 hXT g2 r0 r1 r2 r3 s0 f0 f1 f2 f3 f4
              go_upto_region 14 with fail
              have hmix : Tryd.prog.follows .mixedOrders = true := by kernel_rfl
              refine wp_region_vals 11 10 spec14Dst (fun b' j v W => (b' = true ∧ j < 10) ∨ spec14 G rk ra rb rs KY XT q2 j v W) (fun b' W => Below G wo W ∧ (b' = false → Below wc.heap.size wc W) ∧ (b' = true → Blk W (G + 1) 26 [.int .i64 (K : Int), .string XT, .int .i64 0, .int .u32 0, .int .i64 0])) hmix rfl spec14_dist ?low ?inn ?stab ?drop ?late ?s0 ?step ?done
              case low =>
                intro i o ho
                have hi : i < 11 := by
                  have := (Array.getElem?_eq_some_iff.1 ho).1
                  simpa using this
                have hc : i = 0 ∨ i = 1 ∨ i = 2 ∨ i = 3 ∨ i = 4 ∨ i = 5 ∨ i = 6 ∨ i = 7 ∨ i = 8 ∨ i = 9 ∨ i = 10 := by omega
                rcases hc with rfl | rfl | rfl | rfl | rfl | rfl | rfl | rfl | rfl | rfl | rfl <;> (obtain rfl := Option.some.inj ho; simp)
              case inn =>
                intro i d hi hd
                have hle := (spec14_in i d hi hd).2
                exact Nat.lt_of_le_of_lt hle (of_decide_eq_true rfl)
              case stab =>
                intro b' j u W W' hb h
                rcases h with h | h
                · exact .inl h
                · exact .inr (spec14_kept hb h)
              case drop => exact fun j u W hj => .inl ⟨rfl, hj⟩
              case late =>
                intro j o hj ho
                have hi : j < 11 := by
                  have := (Array.getElem?_eq_some_iff.1 ho).1
                  simpa using this
                omega
              case s0 => exact ⟨HB.out.drew, fun _ => (Below.refl _ _).drew, fun h => by cases h⟩
              case done =>
                intro F W hS hR
                have HE := Lib.hid (And.intro (hS.2.2 rfl) hS.1)
                rw [spec14_put]
                simp only [Act.put, List.setIfInBounds_toArray, List.set_cons_succ, List.set_cons_zero]
                clear hR hS
                have HC : Hid (Blk W (G + 1) 26 (Bt.setC X) ∧ Below G wo W) := Lib.hid ⟨by rw [hX.out]; exact HE.out.1, HE.out.2⟩
                clear HE hX
                go_wp2_with fail
                go_meet
                case rel => exact HC
              case step =>
                intro listed W hs' hcl hSW A0 F hget hR hold i o ho h0 hdep
                have hi : i < 11 := by
                  have := (Array.getElem?_eq_some_iff.1 ho).1
                  simpa using this
                have hc : i = 0 ∨ i = 1 ∨ i = 2 ∨ i = 3 ∨ i = 4 ∨ i = 5 ∨ i = 6 ∨ i = 7 ∨ i = 8 ∨ i = 9 ∨ i = 10 := by omega
                have nm : listed.getD 10 false = false := by
                  cases hx : listed.getD 10 false with
                  | false => rfl
                  | true =>
                    exfalso
                    have l9 := hcl 10 _ rfl hx ⟨9, .data⟩ (by simp) rfl
                    have l8 := hcl 10 _ rfl hx ⟨8, .data⟩ (by simp) rfl
                    have l7 := hcl 8 _ rfl l8 ⟨7, .data⟩ (by simp) rfl
                    have l6 := hcl 7 _ rfl l7 ⟨6, .data⟩ (by simp) rfl
                    have l3 := hcl 7 _ rfl l7 ⟨3, .data⟩ (by simp) rfl
                    have l2 := hcl 3 _ rfl l3 ⟨2, .data⟩ (by simp) rfl
                    have l1 := hcl 2 _ rfl l2 ⟨1, .data⟩ (by simp) rfl
                    have l0 := hcl 1 _ rfl l1 ⟨0, .data⟩ (by simp) rfl
                    have l5 := hcl 6 _ rfl l6 ⟨5, .data⟩ (by simp) rfl
                    have l4 := hcl 5 _ rfl l5 ⟨4, .data⟩ (by simp) rfl
                    rcases hc with rfl | rfl | rfl | rfl | rfl | rfl | rfl | rfl | rfl | rfl | rfl
                    · exact absurd h0 (by rw [l0]; decide)
                    · exact absurd h0 (by rw [l1]; decide)
                    · exact absurd h0 (by rw [l2]; decide)
                    · exact absurd h0 (by rw [l3]; decide)
                    · exact absurd h0 (by rw [l4]; decide)
                    · exact absurd h0 (by rw [l5]; decide)
                    · exact absurd h0 (by rw [l6]; decide)
                    · exact absurd h0 (by rw [l7]; decide)
                    · exact absurd h0 (by rw [l8]; decide)
                    · exact absurd h0 (by rw [l9]; decide)
                    · exact absurd h0 (by rw [hx]; decide)
                have Hsp := Lib.hid (show ∀ j, j < 10 → listed.getD j false = true → spec14 G rk ra rb rs KY XT q2 j (F j) W by
                  intro j hj hlj
                  rcases hR j (by omega) hlj with ⟨hx, _⟩ | h
                  · rw [nm] at hx; cases hx
                  · exact h)
                have Hget := Lib.hid hget
                have Hold := Lib.hid hold
                have HT := Lib.hid hSW
                have HTc := Lib.hid (HT.out.2.1 nm)
                have Nm := Lib.hid nm
                have hGW := HGs.out W HT.out.1
                clear hget hcl hold hSW hR nm
                rcases hc with rfl | rfl | rfl | rfl | rfl | rfl | rfl | rfl | rfl | rfl | rfl
                · obtain rfl := Option.some.inj ho
                  have e7 : A0.tmps.getD 7 undef = .pointer (some ⟨G, 0, none⟩) := (Hold.out 7 (fun j hj hd => by have := (spec14_in j 7 hj hd).1; omega)).trans rfl
                  have HF := Lib.hid (HR.out.kept HTc.out)
                  refine wpOp_mono (fun a' w' (h : ∃ v, a' = A0.put (some 46) v ∧ Hid (spec14 G rk ra rb rs KY XT q2 0 v w') ∧ Hid (Below W.heap.size W w')) => by obtain ⟨v, h1, h2, h3⟩ := h; exact ⟨v, h1, .inl ⟨by decide, ⟨HT.out.1.trans (h3.out.mono hGW), fun hx => (HT.out.2.1 hx).trans (h3.out.mono (HT.out.2.1 hx).size), fun hx => absurd Nm.out (by rw [hx]; decide)⟩, .inr h2.out, h3.out⟩⟩) ?_
                  refine wpOp_plain rfl rfl ?_
                  clear hdep h0
                  unfold Oper.wp
                  go_simp
                  exact ⟨_, rfl, Lib.hid ⟨rfl, HF.out⟩, Lib.hid (Below.refl _ _)⟩
                · obtain rfl := Option.some.inj ho
                  have v0 : A0.tmps.getD 46 undef = F 0 := Hget.out 0 46 (by decide) (hdep ⟨0, .data⟩ (by simp) rfl) rfl
                  have s0 := Hsp.out 0 (by decide) (hdep ⟨0, .data⟩ (by simp) rfl)
                  rw [s0.1] at v0
                  have y0 := s0.2.cell 1 rfl
                  clear s0
                  refine wpOp_mono (fun a' w' (h : ∃ v, a' = A0.put (some 47) v ∧ Hid (spec14 G rk ra rb rs KY XT q2 1 v w') ∧ Hid (Below W.heap.size W w')) => by obtain ⟨v, h1, h2, h3⟩ := h; exact ⟨v, h1, .inl ⟨by decide, ⟨HT.out.1.trans (h3.out.mono hGW), fun hx => (HT.out.2.1 hx).trans (h3.out.mono (HT.out.2.1 hx).size), fun hx => absurd Nm.out (by rw [hx]; decide)⟩, .inr h2.out, h3.out⟩⟩) ?_
                  refine wpOp_plain rfl rfl ?_
                  clear hdep h0
                  unfold Oper.wp
                  go_simp
                  exact ⟨_, rfl, Lib.hid rfl, Lib.hid (Below.refl _ _)⟩
                · obtain rfl := Option.some.inj ho
                  have v1 : A0.tmps.getD 47 undef = F 1 := Hget.out 1 47 (by decide) (hdep ⟨1, .data⟩ (by simp) rfl) rfl
                  have s1 := Hsp.out 1 (by decide) (hdep ⟨1, .data⟩ (by simp) rfl)
                  rw [show F 1 = _ from s1] at v1
                  clear s1
                  refine wpOp_mono (fun a' w' (h : ∃ v, a' = A0.put (some 48) v ∧ Hid (spec14 G rk ra rb rs KY XT q2 2 v w') ∧ Hid (Below W.heap.size W w')) => by obtain ⟨v, h1, h2, h3⟩ := h; exact ⟨v, h1, .inl ⟨by decide, ⟨HT.out.1.trans (h3.out.mono hGW), fun hx => (HT.out.2.1 hx).trans (h3.out.mono (HT.out.2.1 hx).size), fun hx => absurd Nm.out (by rw [hx]; decide)⟩, .inr h2.out, h3.out⟩⟩) ?_
                  refine wpOp_plain rfl rfl ?_
                  clear hdep h0
                  unfold Oper.wp
                  go_simp
                  refine (HKY.out W).mono ?_
                  rintro e W' ⟨rfl, hb⟩
                  exact ⟨_, rfl, Lib.hid rfl, Lib.hid hb⟩
                · obtain rfl := Option.some.inj ho
                  have v2 : A0.tmps.getD 48 undef = F 2 := Hget.out 2 48 (by decide) (hdep ⟨2, .data⟩ (by simp) rfl) rfl
                  have s2 := Hsp.out 2 (by decide) (hdep ⟨2, .data⟩ (by simp) rfl)
                  rw [show F 2 = _ from s2] at v2
                  clear s2
                  have v2' : A0.tmps[48]?.getD undef = .string KY := by simpa using v2
                  refine wpOp_mono (fun a' w' (h : ∃ v, a' = A0.put (some 49) v ∧ Hid (spec14 G rk ra rb rs KY XT q2 3 v w') ∧ Hid (Below W.heap.size W w')) => by obtain ⟨v, h1, h2, h3⟩ := h; exact ⟨v, h1, .inl ⟨by decide, ⟨HT.out.1.trans (h3.out.mono hGW), fun hx => (HT.out.2.1 hx).trans (h3.out.mono (HT.out.2.1 hx).size), fun hx => absurd Nm.out (by rw [hx]; decide)⟩, .inr h2.out, h3.out⟩⟩) ?_
                  refine wpOp_plain rfl rfl ?_
                  clear hdep h0
                  unfold Oper.wp
                  go_simp
                  exact ⟨_, rfl, Lib.hid ⟨_, rfl, Blk.new W 9 [.string ⟨#[]⟩, .string KY]⟩, Lib.hid ((Below.refl _ _).alloc (Nat.le_refl _) _)⟩
                · obtain rfl := Option.some.inj ho
                  have e7 : A0.tmps.getD 7 undef = .pointer (some ⟨G, 0, none⟩) := (Hold.out 7 (fun j hj hd => by have := (spec14_in j 7 hj hd).1; omega)).trans rfl
                  have HF := Lib.hid (HR.out.kept HTc.out)
                  refine wpOp_mono (fun a' w' (h : ∃ v, a' = A0.put (some 50) v ∧ Hid (spec14 G rk ra rb rs KY XT q2 4 v w') ∧ Hid (Below W.heap.size W w')) => by obtain ⟨v, h1, h2, h3⟩ := h; exact ⟨v, h1, .inl ⟨by decide, ⟨HT.out.1.trans (h3.out.mono hGW), fun hx => (HT.out.2.1 hx).trans (h3.out.mono (HT.out.2.1 hx).size), fun hx => absurd Nm.out (by rw [hx]; decide)⟩, .inr h2.out, h3.out⟩⟩) ?_
                  refine wpOp_plain rfl rfl ?_
                  clear hdep h0
                  unfold Oper.wp
                  go_simp
                  exact ⟨_, rfl, Lib.hid ⟨rfl, HF.out⟩, Lib.hid (Below.refl _ _)⟩
                · obtain rfl := Option.some.inj ho
                  have v4 : A0.tmps.getD 50 undef = F 4 := Hget.out 4 50 (by decide) (hdep ⟨4, .data⟩ (by simp) rfl) rfl
                  have s4 := Hsp.out 4 (by decide) (hdep ⟨4, .data⟩ (by simp) rfl)
                  rw [s4.1] at v4
                  have y0 := s4.2.cell 2 rfl
                  clear s4
                  refine wpOp_mono (fun a' w' (h : ∃ v, a' = A0.put (some 51) v ∧ Hid (spec14 G rk ra rb rs KY XT q2 5 v w') ∧ Hid (Below W.heap.size W w')) => by obtain ⟨v, h1, h2, h3⟩ := h; exact ⟨v, h1, .inl ⟨by decide, ⟨HT.out.1.trans (h3.out.mono hGW), fun hx => (HT.out.2.1 hx).trans (h3.out.mono (HT.out.2.1 hx).size), fun hx => absurd Nm.out (by rw [hx]; decide)⟩, .inr h2.out, h3.out⟩⟩) ?_
                  refine wpOp_plain rfl rfl ?_
                  clear hdep h0
                  unfold Oper.wp
                  go_simp
                  exact ⟨_, rfl, Lib.hid rfl, Lib.hid (Below.refl _ _)⟩
                · obtain rfl := Option.some.inj ho
                  have v5 : A0.tmps.getD 51 undef = F 5 := Hget.out 5 51 (by decide) (hdep ⟨5, .data⟩ (by simp) rfl) rfl
                  have s5 := Hsp.out 5 (by decide) (hdep ⟨5, .data⟩ (by simp) rfl)
                  rw [show F 5 = _ from s5] at v5
                  clear s5
                  refine wpOp_mono (fun a' w' (h : ∃ v, a' = A0.put (some 52) v ∧ Hid (spec14 G rk ra rb rs KY XT q2 6 v w') ∧ Hid (Below W.heap.size W w')) => by obtain ⟨v, h1, h2, h3⟩ := h; exact ⟨v, h1, .inl ⟨by decide, ⟨HT.out.1.trans (h3.out.mono hGW), fun hx => (HT.out.2.1 hx).trans (h3.out.mono (HT.out.2.1 hx).size), fun hx => absurd Nm.out (by rw [hx]; decide)⟩, .inr h2.out, h3.out⟩⟩) ?_
                  refine wpOp_plain rfl rfl ?_
                  clear hdep h0
                  unfold Oper.wp
                  go_simp
                  refine (HQ2.out W).mono ?_
                  rintro e W' ⟨rfl, rfl⟩
                  exact ⟨_, rfl, Lib.hid rfl, Lib.hid (Below.refl _ _)⟩
                · obtain rfl := Option.some.inj ho
                  have v3 : A0.tmps.getD 49 undef = F 3 := Hget.out 3 49 (by decide) (hdep ⟨3, .data⟩ (by simp) rfl) rfl
                  have s3 := Hsp.out 3 (by decide) (hdep ⟨3, .data⟩ (by simp) rfl)
                  have v6 : A0.tmps.getD 52 undef = F 6 := Hget.out 6 52 (by decide) (hdep ⟨6, .data⟩ (by simp) rfl) rfl
                  have s6 := Hsp.out 6 (by decide) (hdep ⟨6, .data⟩ (by simp) rfl)
                  obtain ⟨g, s3, b3⟩ := s3
                  rw [s3] at v3
                  rw [show F 6 = _ from s6] at v6
                  have hq : (q2 : Int) < 2 := by have := G2.out; omega
                  have B3 := Lib.hid b3
                  clear s3 s6 b3
                  refine wpOp_mono (fun a' w' (h : ∃ v, a' = A0.put (some 53) v ∧ Hid (spec14 G rk ra rb rs KY XT q2 7 v w') ∧ Hid (Below W.heap.size W w')) => by obtain ⟨v, h1, h2, h3⟩ := h; exact ⟨v, h1, .inl ⟨by decide, ⟨HT.out.1.trans (h3.out.mono hGW), fun hx => (HT.out.2.1 hx).trans (h3.out.mono (HT.out.2.1 hx).size), fun hx => absurd Nm.out (by rw [hx]; decide)⟩, .inr h2.out, h3.out⟩⟩) ?_
                  refine wpOp_plain rfl rfl ?_
                  clear hdep h0
                  unfold Oper.wp
                  go_simp
                  exact ⟨_, rfl, Lib.hid ⟨g, rfl, B3.out⟩, Lib.hid (Below.refl _ _)⟩
                · obtain rfl := Option.some.inj ho
                  have v7 : A0.tmps.getD 53 undef = F 7 := Hget.out 7 53 (by decide) (hdep ⟨7, .data⟩ (by simp) rfl) rfl
                  have s7 := Hsp.out 7 (by decide) (hdep ⟨7, .data⟩ (by simp) rfl)
                  obtain ⟨g, s7, b7⟩ := s7
                  rw [s7] at v7
                  have y0 := b7.cell q2 HXT.out
                  clear s7 b7
                  refine wpOp_mono (fun a' w' (h : ∃ v, a' = A0.put (some 54) v ∧ Hid (spec14 G rk ra rb rs KY XT q2 8 v w') ∧ Hid (Below W.heap.size W w')) => by obtain ⟨v, h1, h2, h3⟩ := h; exact ⟨v, h1, .inl ⟨by decide, ⟨HT.out.1.trans (h3.out.mono hGW), fun hx => (HT.out.2.1 hx).trans (h3.out.mono (HT.out.2.1 hx).size), fun hx => absurd Nm.out (by rw [hx]; decide)⟩, .inr h2.out, h3.out⟩⟩) ?_
                  refine wpOp_plain rfl rfl ?_
                  clear hdep h0
                  unfold Oper.wp
                  go_simp
                  exact ⟨_, rfl, Lib.hid rfl, Lib.hid (Below.refl _ _)⟩
                · obtain rfl := Option.some.inj ho
                  have e8 : A0.tmps.getD 8 undef = .pointer (some ⟨G + 1, 0, none⟩) := (Hold.out 8 (fun j hj hd => by have := (spec14_in j 8 hj hd).1; omega)).trans rfl
                  refine wpOp_mono (fun a' w' (h : ∃ v, a' = A0.put (some 55) v ∧ Hid (spec14 G rk ra rb rs KY XT q2 9 v w') ∧ Hid (Below W.heap.size W w')) => by obtain ⟨v, h1, h2, h3⟩ := h; exact ⟨v, h1, .inl ⟨by decide, ⟨HT.out.1.trans (h3.out.mono hGW), fun hx => (HT.out.2.1 hx).trans (h3.out.mono (HT.out.2.1 hx).size), fun hx => absurd Nm.out (by rw [hx]; decide)⟩, .inr h2.out, h3.out⟩⟩) ?_
                  refine wpOp_plain rfl rfl ?_
                  clear hdep h0
                  unfold Oper.wp
                  go_simp
                  exact ⟨_, rfl, Lib.hid rfl, Lib.hid (Below.refl _ _)⟩
                · obtain rfl := Option.some.inj ho
                  have v9 : A0.tmps.getD 55 undef = F 9 := Hget.out 9 55 (by decide) (hdep ⟨9, .data⟩ (by simp) rfl) rfl
                  have s9 := Hsp.out 9 (by decide) (hdep ⟨9, .data⟩ (by simp) rfl)
                  have v8 : A0.tmps.getD 54 undef = F 8 := Hget.out 8 54 (by decide) (hdep ⟨8, .data⟩ (by simp) rfl) rfl
                  have s8 := Hsp.out 8 (by decide) (hdep ⟨8, .data⟩ (by simp) rfl)
                  rw [show F 9 = _ from s9] at v9
                  rw [show F 8 = _ from s8] at v8
                  have hRW := HS.out.kept HTc.out
                  have z1 := hRW.cell 1 rfl
                  have f1 := hRW.frozen (show 5 ≤ maxLen by decide) 1
                  have HE := Lib.hid (hRW.set (show 5 ≤ maxLen by decide) 1 (.string XT))
                  have HBE := Lib.hid (HT.out.1.setCell (p := ⟨G + 1, 1, none⟩) (by show G ≤ G + 1; omega) (.string XT))
                  clear s9 s8 hRW
                  refine wpOp_mono (fun a' w' (h : ∃ v, a' = A0.put none v ∧ Hid (Blk w' (G + 1) 26 [.int .i64 (K : Int), .string XT, .int .i64 0, .int .u32 0, .int .i64 0]) ∧ Hid (Below G wo w')) => by obtain ⟨v, h1, h2, h3⟩ := h; exact ⟨v, h1, .inr ⟨rfl, ⟨h3.out, fun hx => (by cases hx), fun _ => h2.out⟩, .inr trivial⟩⟩) ?_
                  refine wpOp_plain rfl rfl ?_
                  clear hdep h0
                  unfold Oper.wp
                  go_simp
                  all_goals first | exact HE | exact HBE | exact ⟨undef, rfl, HE, HBE⟩ | exact undef | rfl
            · have hk : K = 7 := by omega
              have hX0 := HX.out.2.2.1 (by omega)
              rw [← h] at hX0
              have d1 : ((K : Int) == 1) = false := by rw [h]; rfl
              have d4 : ((K : Int) == 4) = false := by rw [h]; rfl
              have d6 : ((K : Int) == 6) = false := by rw [h]; rfl
              have d7 : ((K : Int) == 7) = true := by rw [h]; rfl
              have d2 : ((K : Int) == 2) = false := by rw [h]; rfl
              have d8 : ((K : Int) == 8) = false := by rw [h]; rfl
              have d10 : ((K : Int) == 10) = false := by rw [h]; rfl
              have HEN := Lib.hid (fun W => keep_ends W)
              have HXT0 := Lib.hid (endCells_at (1 + p4) (by omega))
              obtain ⟨XT, hXT⟩ : ∃ XT, XT = Bt.endOf (1 + p4) := ⟨_, rfl⟩
              rw [← hXT] at hX0
              have hX := Lib.hid hX0
              have HXT : Hid (endCells[1 + p4]? = some (.string XT)) := Lib.hid (by rw [hXT]; exact HXT0.out)
              have H4 := Lib.hid h4
              clear h hk HX HNT HPN HQ2 HKY hX0 hXT HXT0 h4 r0 r1 r2 r3 s0 f0 f1 f2 f3 f4
              go_upto_region 16 with fail
              have hmix : Tryd.prog.follows .mixedOrders = true := by kernel_rfl
              refine wp_region_vals 12 11 spec16Dst (fun b' j v W => (b' = true ∧ j < 11) ∨ spec16 G rk ra rb rs XT p4 j v W) (fun b' W => Below G wo W ∧ (b' = false → Below wc.heap.size wc W) ∧ (b' = true → Blk W (G + 1) 26 [.int .i64 (K : Int), .string XT, .int .i64 0, .int .u32 0, .int .i64 0])) hmix rfl spec16_dist ?low ?inn ?stab ?drop ?late ?s0 ?step ?done
              case low =>
                intro i o ho
                have hi : i < 12 := by
                  have := (Array.getElem?_eq_some_iff.1 ho).1
                  simpa using this
                have hc : i = 0 ∨ i = 1 ∨ i = 2 ∨ i = 3 ∨ i = 4 ∨ i = 5 ∨ i = 6 ∨ i = 7 ∨ i = 8 ∨ i = 9 ∨ i = 10 ∨ i = 11 := by omega
                rcases hc with rfl | rfl | rfl | rfl | rfl | rfl | rfl | rfl | rfl | rfl | rfl | rfl <;> (obtain rfl := Option.some.inj ho; simp)
              case inn =>
                intro i d hi hd
                have hle := (spec16_in i d hi hd).2
                exact Nat.lt_of_le_of_lt hle (of_decide_eq_true rfl)
              case stab =>
                intro b' j u W W' hb h
                rcases h with h | h
                · exact .inl h
                · exact .inr (spec16_kept hb h)
              case drop => exact fun j u W hj => .inl ⟨rfl, hj⟩
              case late =>
                intro j o hj ho
                have hi : j < 12 := by
                  have := (Array.getElem?_eq_some_iff.1 ho).1
                  simpa using this
                omega
              case s0 => exact ⟨HB.out.drew, fun _ => (Below.refl _ _).drew, fun h => by cases h⟩
              case done =>
                intro F W hS hR
                have HE := Lib.hid (And.intro (hS.2.2 rfl) hS.1)
                rw [spec16_put]
                simp only [Act.put, List.setIfInBounds_toArray, List.set_cons_succ, List.set_cons_zero]
                clear hR hS
                have HC : Hid (Blk W (G + 1) 26 (Bt.setC X) ∧ Below G wo W) := Lib.hid ⟨by rw [hX.out]; exact HE.out.1, HE.out.2⟩
                clear HE hX
                go_wp2_with fail
                go_meet
                case rel => exact HC
              case step =>
                intro listed W hs' hcl hSW A0 F hget hR hold i o ho h0 hdep
                have hi : i < 12 := by
                  have := (Array.getElem?_eq_some_iff.1 ho).1
                  simpa using this
                have hc : i = 0 ∨ i = 1 ∨ i = 2 ∨ i = 3 ∨ i = 4 ∨ i = 5 ∨ i = 6 ∨ i = 7 ∨ i = 8 ∨ i = 9 ∨ i = 10 ∨ i = 11 := by omega
                have nm : listed.getD 11 false = false := by
                  cases hx : listed.getD 11 false with
                  | false => rfl
                  | true =>
                    exfalso
                    have l10 := hcl 11 _ rfl hx ⟨10, .data⟩ (by simp) rfl
                    have l9 := hcl 11 _ rfl hx ⟨9, .data⟩ (by simp) rfl
                    have l8 := hcl 9 _ rfl l9 ⟨8, .data⟩ (by simp) rfl
                    have l7 := hcl 8 _ rfl l8 ⟨7, .data⟩ (by simp) rfl
                    have l0 := hcl 8 _ rfl l8 ⟨0, .data⟩ (by simp) rfl
                    have l6 := hcl 7 _ rfl l7 ⟨6, .data⟩ (by simp) rfl
                    have l5 := hcl 6 _ rfl l6 ⟨5, .data⟩ (by simp) rfl
                    have l2 := hcl 6 _ rfl l6 ⟨2, .data⟩ (by simp) rfl
                    have l4 := hcl 5 _ rfl l5 ⟨4, .data⟩ (by simp) rfl
                    have l3 := hcl 4 _ rfl l4 ⟨3, .data⟩ (by simp) rfl
                    have l1 := hcl 2 _ rfl l2 ⟨1, .data⟩ (by simp) rfl
                    rcases hc with rfl | rfl | rfl | rfl | rfl | rfl | rfl | rfl | rfl | rfl | rfl | rfl
                    · exact absurd h0 (by rw [l0]; decide)
                    · exact absurd h0 (by rw [l1]; decide)
                    · exact absurd h0 (by rw [l2]; decide)
                    · exact absurd h0 (by rw [l3]; decide)
                    · exact absurd h0 (by rw [l4]; decide)
                    · exact absurd h0 (by rw [l5]; decide)
                    · exact absurd h0 (by rw [l6]; decide)
                    · exact absurd h0 (by rw [l7]; decide)
                    · exact absurd h0 (by rw [l8]; decide)
                    · exact absurd h0 (by rw [l9]; decide)
                    · exact absurd h0 (by rw [l10]; decide)
                    · exact absurd h0 (by rw [hx]; decide)
                have Hsp := Lib.hid (show ∀ j, j < 11 → listed.getD j false = true → spec16 G rk ra rb rs XT p4 j (F j) W by
                  intro j hj hlj
                  rcases hR j (by omega) hlj with ⟨hx, _⟩ | h
                  · rw [nm] at hx; cases hx
                  · exact h)
                have Hget := Lib.hid hget
                have Hold := Lib.hid hold
                have HT := Lib.hid hSW
                have HTc := Lib.hid (HT.out.2.1 nm)
                have Nm := Lib.hid nm
                have hGW := HGs.out W HT.out.1
                clear hget hcl hold hSW hR nm
                rcases hc with rfl | rfl | rfl | rfl | rfl | rfl | rfl | rfl | rfl | rfl | rfl | rfl
                · obtain rfl := Option.some.inj ho
                  refine wpOp_mono (fun a' w' (h : ∃ v, a' = A0.put (some 58) v ∧ Hid (spec16 G rk ra rb rs XT p4 0 v w') ∧ Hid (Below W.heap.size W w')) => by obtain ⟨v, h1, h2, h3⟩ := h; exact ⟨v, h1, .inl ⟨by decide, ⟨HT.out.1.trans (h3.out.mono hGW), fun hx => (HT.out.2.1 hx).trans (h3.out.mono (HT.out.2.1 hx).size), fun hx => absurd Nm.out (by rw [hx]; decide)⟩, .inr h2.out, h3.out⟩⟩) ?_
                  refine wpOp_plain rfl rfl ?_
                  clear hdep h0
                  unfold Oper.wp
                  go_simp
                  refine (HEN.out W).mono ?_
                  rintro e W' ⟨rfl, hg, hb⟩
                  exact ⟨_, rfl, Lib.hid ⟨_, rfl, hg⟩, Lib.hid hb⟩
                · obtain rfl := Option.some.inj ho
                  have e7 : A0.tmps.getD 7 undef = .pointer (some ⟨G, 0, none⟩) := (Hold.out 7 (fun j hj hd => by have := (spec16_in j 7 hj hd).1; omega)).trans rfl
                  have HF := Lib.hid (HR.out.kept HTc.out)
                  refine wpOp_mono (fun a' w' (h : ∃ v, a' = A0.put (some 59) v ∧ Hid (spec16 G rk ra rb rs XT p4 1 v w') ∧ Hid (Below W.heap.size W w')) => by obtain ⟨v, h1, h2, h3⟩ := h; exact ⟨v, h1, .inl ⟨by decide, ⟨HT.out.1.trans (h3.out.mono hGW), fun hx => (HT.out.2.1 hx).trans (h3.out.mono (HT.out.2.1 hx).size), fun hx => absurd Nm.out (by rw [hx]; decide)⟩, .inr h2.out, h3.out⟩⟩) ?_
                  refine wpOp_plain rfl rfl ?_
                  clear hdep h0
                  unfold Oper.wp
                  go_simp
                  exact ⟨_, rfl, Lib.hid ⟨rfl, HF.out⟩, Lib.hid (Below.refl _ _)⟩
                · obtain rfl := Option.some.inj ho
                  have v1 : A0.tmps.getD 59 undef = F 1 := Hget.out 1 59 (by decide) (hdep ⟨1, .data⟩ (by simp) rfl) rfl
                  have s1 := Hsp.out 1 (by decide) (hdep ⟨1, .data⟩ (by simp) rfl)
                  rw [s1.1] at v1
                  have y0 := s1.2.cell 1 rfl
                  clear s1
                  refine wpOp_mono (fun a' w' (h : ∃ v, a' = A0.put (some 60) v ∧ Hid (spec16 G rk ra rb rs XT p4 2 v w') ∧ Hid (Below W.heap.size W w')) => by obtain ⟨v, h1, h2, h3⟩ := h; exact ⟨v, h1, .inl ⟨by decide, ⟨HT.out.1.trans (h3.out.mono hGW), fun hx => (HT.out.2.1 hx).trans (h3.out.mono (HT.out.2.1 hx).size), fun hx => absurd Nm.out (by rw [hx]; decide)⟩, .inr h2.out, h3.out⟩⟩) ?_
                  refine wpOp_plain rfl rfl ?_
                  clear hdep h0
                  unfold Oper.wp
                  go_simp
                  exact ⟨_, rfl, Lib.hid rfl, Lib.hid (Below.refl _ _)⟩
                · obtain rfl := Option.some.inj ho
                  refine wpOp_mono (fun a' w' (h : ∃ v, a' = A0.put (some 61) v ∧ Hid (spec16 G rk ra rb rs XT p4 3 v w') ∧ Hid (Below W.heap.size W w')) => by obtain ⟨v, h1, h2, h3⟩ := h; exact ⟨v, h1, .inl ⟨by decide, ⟨HT.out.1.trans (h3.out.mono hGW), fun hx => (HT.out.2.1 hx).trans (h3.out.mono (HT.out.2.1 hx).size), fun hx => absurd Nm.out (by rw [hx]; decide)⟩, .inr h2.out, h3.out⟩⟩) ?_
                  refine wpOp_plain rfl rfl ?_
                  clear hdep h0
                  unfold Oper.wp
                  go_simp
                  refine (HEN.out W).mono ?_
                  rintro e W' ⟨rfl, hg, hb⟩
                  exact ⟨_, rfl, Lib.hid ⟨_, rfl, hg⟩, Lib.hid hb⟩
                · obtain rfl := Option.some.inj ho
                  have v3 : A0.tmps.getD 61 undef = F 3 := Hget.out 3 61 (by decide) (hdep ⟨3, .data⟩ (by simp) rfl) rfl
                  have s3 := Hsp.out 3 (by decide) (hdep ⟨3, .data⟩ (by simp) rfl)
                  obtain ⟨g, s3, b3⟩ := s3
                  rw [s3] at v3
                  clear s3 b3
                  refine wpOp_mono (fun a' w' (h : ∃ v, a' = A0.put (some 62) v ∧ Hid (spec16 G rk ra rb rs XT p4 4 v w') ∧ Hid (Below W.heap.size W w')) => by obtain ⟨v, h1, h2, h3⟩ := h; exact ⟨v, h1, .inl ⟨by decide, ⟨HT.out.1.trans (h3.out.mono hGW), fun hx => (HT.out.2.1 hx).trans (h3.out.mono (HT.out.2.1 hx).size), fun hx => absurd Nm.out (by rw [hx]; decide)⟩, .inr h2.out, h3.out⟩⟩) ?_
                  refine wpOp_plain rfl rfl ?_
                  clear hdep h0
                  unfold Oper.wp
                  go_simp
                  exact ⟨_, rfl, Lib.hid rfl, Lib.hid (Below.refl _ _)⟩
                · obtain rfl := Option.some.inj ho
                  have v4 : A0.tmps.getD 62 undef = F 4 := Hget.out 4 62 (by decide) (hdep ⟨4, .data⟩ (by simp) rfl) rfl
                  have s4 := Hsp.out 4 (by decide) (hdep ⟨4, .data⟩ (by simp) rfl)
                  rw [show F 4 = _ from s4] at v4
                  clear s4
                  refine wpOp_mono (fun a' w' (h : ∃ v, a' = A0.put (some 63) v ∧ Hid (spec16 G rk ra rb rs XT p4 5 v w') ∧ Hid (Below W.heap.size W w')) => by obtain ⟨v, h1, h2, h3⟩ := h; exact ⟨v, h1, .inl ⟨by decide, ⟨HT.out.1.trans (h3.out.mono hGW), fun hx => (HT.out.2.1 hx).trans (h3.out.mono (HT.out.2.1 hx).size), fun hx => absurd Nm.out (by rw [hx]; decide)⟩, .inr h2.out, h3.out⟩⟩) ?_
                  refine wpOp_plain rfl rfl ?_
                  clear hdep h0
                  unfold Oper.wp
                  go_simp
                  exact ⟨_, rfl, Lib.hid rfl, Lib.hid (Below.refl _ _)⟩
                · obtain rfl := Option.some.inj ho
                  have v2 : A0.tmps.getD 60 undef = F 2 := Hget.out 2 60 (by decide) (hdep ⟨2, .data⟩ (by simp) rfl) rfl
                  have s2 := Hsp.out 2 (by decide) (hdep ⟨2, .data⟩ (by simp) rfl)
                  have v5 : A0.tmps.getD 63 undef = F 5 := Hget.out 5 63 (by decide) (hdep ⟨5, .data⟩ (by simp) rfl) rfl
                  have s5 := Hsp.out 5 (by decide) (hdep ⟨5, .data⟩ (by simp) rfl)
                  rw [show F 2 = _ from s2] at v2
                  rw [show F 5 = _ from s5] at v5
                  clear s2 s5
                  refine wpOp_mono (fun a' w' (h : ∃ v, a' = A0.put (some 64) v ∧ Hid (spec16 G rk ra rb rs XT p4 6 v w') ∧ Hid (Below W.heap.size W w')) => by obtain ⟨v, h1, h2, h3⟩ := h; exact ⟨v, h1, .inl ⟨by decide, ⟨HT.out.1.trans (h3.out.mono hGW), fun hx => (HT.out.2.1 hx).trans (h3.out.mono (HT.out.2.1 hx).size), fun hx => absurd Nm.out (by rw [hx]; decide)⟩, .inr h2.out, h3.out⟩⟩) ?_
                  refine wpOp_plain rfl rfl ?_
                  clear hdep h0
                  unfold Oper.wp
                  go_simp
                  refine (HP4.out W).mono ?_
                  rintro e W' ⟨rfl, rfl⟩
                  exact ⟨_, rfl, Lib.hid rfl, Lib.hid (Below.refl _ _)⟩
                · obtain rfl := Option.some.inj ho
                  have v6 : A0.tmps.getD 64 undef = F 6 := Hget.out 6 64 (by decide) (hdep ⟨6, .data⟩ (by simp) rfl) rfl
                  have s6 := Hsp.out 6 (by decide) (hdep ⟨6, .data⟩ (by simp) rfl)
                  rw [show F 6 = _ from s6] at v6
                  have hp := H4.out
                  have hwr : IntKind.i64.wrap (1 + (p4 : Int)) = 1 + (p4 : Int) := IntWalk.i64_in _ (by omega)
                  clear s6
                  refine wpOp_mono (fun a' w' (h : ∃ v, a' = A0.put (some 65) v ∧ Hid (spec16 G rk ra rb rs XT p4 7 v w') ∧ Hid (Below W.heap.size W w')) => by obtain ⟨v, h1, h2, h3⟩ := h; exact ⟨v, h1, .inl ⟨by decide, ⟨HT.out.1.trans (h3.out.mono hGW), fun hx => (HT.out.2.1 hx).trans (h3.out.mono (HT.out.2.1 hx).size), fun hx => absurd Nm.out (by rw [hx]; decide)⟩, .inr h2.out, h3.out⟩⟩) ?_
                  refine wpOp_plain rfl rfl ?_
                  clear hdep h0
                  unfold Oper.wp
                  go_simp
                  exact ⟨_, rfl, Lib.hid (show Value.int .i64 _ = .int .i64 _ from congrArg _ (by omega)), Lib.hid (Below.refl _ _)⟩
                · obtain rfl := Option.some.inj ho
                  have v0 : A0.tmps.getD 58 undef = F 0 := Hget.out 0 58 (by decide) (hdep ⟨0, .data⟩ (by simp) rfl) rfl
                  have s0 := Hsp.out 0 (by decide) (hdep ⟨0, .data⟩ (by simp) rfl)
                  have v7 : A0.tmps.getD 65 undef = F 7 := Hget.out 7 65 (by decide) (hdep ⟨7, .data⟩ (by simp) rfl) rfl
                  have s7 := Hsp.out 7 (by decide) (hdep ⟨7, .data⟩ (by simp) rfl)
                  obtain ⟨g, s0, b0⟩ := s0
                  rw [s0] at v0
                  rw [show F 7 = _ from s7] at v7
                  have hq : ((1 + p4 : Nat) : Int) < 5 := by have := H4.out; omega
                  have B0 := Lib.hid b0
                  obtain ⟨pe, hpe⟩ : ∃ pe, pe = 1 + p4 := ⟨_, rfl⟩
                  rw [← hpe] at v7 hq
                  have Hpe := Lib.hid hpe
                  clear s0 s7 b0 hpe
                  refine wpOp_mono (fun a' w' (h : ∃ v, a' = A0.put (some 66) v ∧ Hid (spec16 G rk ra rb rs XT p4 8 v w') ∧ Hid (Below W.heap.size W w')) => by obtain ⟨v, h1, h2, h3⟩ := h; exact ⟨v, h1, .inl ⟨by decide, ⟨HT.out.1.trans (h3.out.mono hGW), fun hx => (HT.out.2.1 hx).trans (h3.out.mono (HT.out.2.1 hx).size), fun hx => absurd Nm.out (by rw [hx]; decide)⟩, .inr h2.out, h3.out⟩⟩) ?_
                  refine wpOp_plain rfl rfl ?_
                  clear hdep h0
                  unfold Oper.wp
                  go_simp
                  exact ⟨_, rfl, Lib.hid ⟨g, by rw [Hpe.out], B0.out⟩, Lib.hid (Below.refl _ _)⟩
                · obtain rfl := Option.some.inj ho
                  have v8 : A0.tmps.getD 66 undef = F 8 := Hget.out 8 66 (by decide) (hdep ⟨8, .data⟩ (by simp) rfl) rfl
                  have s8 := Hsp.out 8 (by decide) (hdep ⟨8, .data⟩ (by simp) rfl)
                  obtain ⟨g, s8, b8⟩ := s8
                  rw [s8] at v8
                  have y0 := b8.cell (1 + p4) HXT.out
                  clear s8 b8
                  generalize 1 + p4 = pe at v8 y0
                  refine wpOp_mono (fun a' w' (h : ∃ v, a' = A0.put (some 67) v ∧ Hid (spec16 G rk ra rb rs XT p4 9 v w') ∧ Hid (Below W.heap.size W w')) => by obtain ⟨v, h1, h2, h3⟩ := h; exact ⟨v, h1, .inl ⟨by decide, ⟨HT.out.1.trans (h3.out.mono hGW), fun hx => (HT.out.2.1 hx).trans (h3.out.mono (HT.out.2.1 hx).size), fun hx => absurd Nm.out (by rw [hx]; decide)⟩, .inr h2.out, h3.out⟩⟩) ?_
                  refine wpOp_plain rfl rfl ?_
                  clear hdep h0
                  unfold Oper.wp
                  go_simp
                  exact ⟨_, rfl, Lib.hid rfl, Lib.hid (Below.refl _ _)⟩
                · obtain rfl := Option.some.inj ho
                  have e8 : A0.tmps.getD 8 undef = .pointer (some ⟨G + 1, 0, none⟩) := (Hold.out 8 (fun j hj hd => by have := (spec16_in j 8 hj hd).1; omega)).trans rfl
                  refine wpOp_mono (fun a' w' (h : ∃ v, a' = A0.put (some 68) v ∧ Hid (spec16 G rk ra rb rs XT p4 10 v w') ∧ Hid (Below W.heap.size W w')) => by obtain ⟨v, h1, h2, h3⟩ := h; exact ⟨v, h1, .inl ⟨by decide, ⟨HT.out.1.trans (h3.out.mono hGW), fun hx => (HT.out.2.1 hx).trans (h3.out.mono (HT.out.2.1 hx).size), fun hx => absurd Nm.out (by rw [hx]; decide)⟩, .inr h2.out, h3.out⟩⟩) ?_
                  refine wpOp_plain rfl rfl ?_
                  clear hdep h0
                  unfold Oper.wp
                  go_simp
                  exact ⟨_, rfl, Lib.hid rfl, Lib.hid (Below.refl _ _)⟩
                · obtain rfl := Option.some.inj ho
                  have v10 : A0.tmps.getD 68 undef = F 10 := Hget.out 10 68 (by decide) (hdep ⟨10, .data⟩ (by simp) rfl) rfl
                  have s10 := Hsp.out 10 (by decide) (hdep ⟨10, .data⟩ (by simp) rfl)
                  have v9 : A0.tmps.getD 67 undef = F 9 := Hget.out 9 67 (by decide) (hdep ⟨9, .data⟩ (by simp) rfl) rfl
                  have s9 := Hsp.out 9 (by decide) (hdep ⟨9, .data⟩ (by simp) rfl)
                  rw [show F 10 = _ from s10] at v10
                  rw [show F 9 = _ from s9] at v9
                  have hRW := HS.out.kept HTc.out
                  have z1 := hRW.cell 1 rfl
                  have f1 := hRW.frozen (show 5 ≤ maxLen by decide) 1
                  have HE := Lib.hid (hRW.set (show 5 ≤ maxLen by decide) 1 (.string XT))
                  have HBE := Lib.hid (HT.out.1.setCell (p := ⟨G + 1, 1, none⟩) (by show G ≤ G + 1; omega) (.string XT))
                  clear s10 s9 hRW
                  refine wpOp_mono (fun a' w' (h : ∃ v, a' = A0.put none v ∧ Hid (Blk w' (G + 1) 26 [.int .i64 (K : Int), .string XT, .int .i64 0, .int .u32 0, .int .i64 0]) ∧ Hid (Below G wo w')) => by obtain ⟨v, h1, h2, h3⟩ := h; exact ⟨v, h1, .inr ⟨rfl, ⟨h3.out, fun hx => (by cases hx), fun _ => h2.out⟩, .inr trivial⟩⟩) ?_
                  refine wpOp_plain rfl rfl ?_
                  clear hdep h0
                  unfold Oper.wp
                  go_simp
                  all_goals first | exact HE | exact HBE | exact ⟨undef, rfl, HE, HBE⟩ | exact undef | rfl
            · have hk : K = 8 := by omega
              have hX := HX.out.2.2.2.1 (by omega)
              have d1 : ((K : Int) == 1) = false := by rw [h]; rfl
              have d4 : ((K : Int) == 4) = false := by rw [h]; rfl
              have d6 : ((K : Int) == 6) = false := by rw [h]; rfl
              have d7 : ((K : Int) == 7) = false := by rw [h]; rfl
              have d2 : ((K : Int) == 2) = false := by rw [h]; rfl
              have d8 : ((K : Int) == 8) = true := by rw [h]; rfl
              have d10 : ((K : Int) == 10) = false := by rw [h]; rfl
              have HC : Hid (Blk (wc.setCell ⟨G + 1, 2, none⟩ (.int .i64 (pN : Int))) (G + 1) 26 (Bt.setC X) ∧ Below G wo (wc.setCell ⟨G + 1, 2, none⟩ (.int .i64 (pN : Int)))) := Lib.hid ⟨by rw [hX]; exact HS.out.set (show 5 ≤ maxLen by decide) 2 _, HB.out.setCell (by show G ≤ G + 1; omega) _⟩
              obtain ⟨⟨-, -, z2, -, -⟩, -⟩ := HS.out.facts5
              clear h hk HX HNT HP4 HQ2 HKY hX
              go_wp2_with fail
              refine (HPN.out _).mono ?_
              rintro e wx ⟨rfl, hwx⟩
              rw [← hwx]
              clear hwx wx
              go_wp2_with fail
              go_meet
              case rel => exact HC
            · have hk : K = 9 := by omega
              have hX := HX.out.2.2.2.2.2 (by omega)
              have d1 : ((K : Int) == 1) = false := by rw [h]; rfl
              have d4 : ((K : Int) == 4) = false := by rw [h]; rfl
              have d6 : ((K : Int) == 6) = false := by rw [h]; rfl
              have d7 : ((K : Int) == 7) = false := by rw [h]; rfl
              have d2 : ((K : Int) == 2) = false := by rw [h]; rfl
              have d8 : ((K : Int) == 8) = false := by rw [h]; rfl
              have d10 : ((K : Int) == 10) = false := by rw [h]; rfl
              have HC : Hid (Blk wc (G + 1) 26 (Bt.setC X) ∧ Below G wo wc) := Lib.hid ⟨by rw [hX]; exact HS.out, HB.out⟩
              clear h hk HX HNT HPN HP4 HQ2 HKY hX
              go_wp2_with fail
              go_meet
              case rel => exact HC
            · have hk : K = 10 := by omega
              have hX := HX.out.2.2.2.2.1 (by omega)
              rw [← h] at hX
              have d1 : ((K : Int) == 1) = false := by rw [h]; rfl
              have d4 : ((K : Int) == 4) = false := by rw [h]; rfl
              have d6 : ((K : Int) == 6) = false := by rw [h]; rfl
              have d7 : ((K : Int) == 7) = false := by rw [h]; rfl
              have d2 : ((K : Int) == 2) = false := by rw [h]; rfl
              have d8 : ((K : Int) == 8) = false := by rw [h]; rfl
              have d10 : ((K : Int) == 10) = true := by rw [h]; rfl
              clear h hk HX HPN HP4 HQ2 HKY
              go_wp2_with fail
              refine (HNT.out wc).mono ?_
              rintro e w3 ⟨rfl, hb3⟩
              have HS3 := Lib.hid (HS.out.kept hb3)
              obtain ⟨⟨-, -, -, z3, z4⟩, ⟨-, -, -, y3, y4⟩⟩ := HS3.out.facts5
              have HC : Hid (Blk ((w3.setCell ⟨G + 1, 3, none⟩ (.int .u32 (NA : Int))).setCell ⟨G + 1, 4, none⟩ (.int .i64 (NB : Int))) (G + 1) 26 (Bt.setC X) ∧ Below G wo ((w3.setCell ⟨G + 1, 3, none⟩ (.int .u32 (NA : Int))).setCell ⟨G + 1, 4, none⟩ (.int .i64 (NB : Int)))) := Lib.hid ⟨by
                rw [hX]
                exact (HS3.out.set (show 5 ≤ maxLen by decide) 3 _).set (show 5 ≤ maxLen by decide) 4 _, ((HB.out.trans (hb3.mono (Nat.le_of_lt HR.out.lt))).setCell (by show G ≤ G + 1; omega) _).setCell (by show G ≤ G + 1; omega) _⟩
              clear hb3 HS3 hX
              go_wp2_with fail
              go_meet
              case rel => exact HC
          case rest =>
            have HC := Lib.hid hcut.out
            clear hcut HR HS HB r0 r1 r2 r3 s0 f0 f1 f2 f3 f4 HNT HPN HP4 HQ2 HKY HX
            obtain ⟨xk, xt, xn, xa, xb⟩ := X
            obtain ⟨⟨s0, s1, s2, s3, s4⟩, -⟩ := Blk.facts5 HC.out.1
            obtain ⟨hO2, hB2⟩ := HOW.out _ HC.out.2
            have HO2 := Lib.hid (hO2.alloc (.cells #[.int .i64 xk, .string xt, .int .i64 xn, .int .u32 (xa : Int), .int .i64 xb] 26))
            have Hnw := Lib.hid (news_set wc ⟨xk, xt, xn, xa, xb⟩ 26)
            have HB2 := Lib.hid (hB2.alloc hB2.size (.cells #[.int .i64 xk, .string xt, .int .i64 xn, .int .u32 (xa : Int), .int .i64 xb] 26))
            have hlt4 := HB2.out.size
            have hDm : D.length + 1 ≤ 2518437208883 := by have := hDl.out; omega
            clear hO2 hB2 HC HOW
            simp only at s0 s1 s2 s3 s4
            go_wp2_with (at_builtin; refine wpL_append_set _ rfl _ _ rfl w.heap.size _ D rfl HO2.out _ 1 _ [⟨xk, xt, xn, xa, xb⟩] rfl rfl Hnw.out hDm hlt4 ?_)
            intro v' w4 hO4 hb4
            have HB4 := Lib.hid (HB2.out.trans hb4)
            rw [← Hst.out] at hO4
            have HO4 := Lib.hid hO4
            clear hO4 hb4
            go_wp2
            go_roundw
            case rel => exact ⟨k + 1, by omega, by go_num, HO4, HB4⟩
            case measure => simp [intOf]; omega
      · have Hsp : Hid (Bt.rawsS (l.take k) m = Bt.rawsS l m) := Lib.hid (by unfold Bt.rawsS; rw [List.take_take, Nat.min_eq_left (by omega)])
        have ikm : ¬ (k : Int) < (m : Int) := by omega
        rw [Hsp.out] at HO
        clear hc hkm Hsp
        generalize l[k] = r at *
        have HO1 := Lib.hid (HO.out.alloc (.cells #[.int .i64 r.k, .int .i64 r.a, .int .i64 r.b, .string r.s] 67))
        have HB1 := Lib.hid (HBr.out.alloc hsz (.cells #[.int .i64 r.k, .int .i64 r.a, .int .i64 r.b, .string r.s] 67))
        go_wp2
        go_ret
        exact ⟨⟨_, rfl, HO1.out⟩, HB1.out⟩
    · have htk : l.take k = l := List.take_of_length_le (by omega)
      rw [htk] at HO
      go_wp2
      go_ret
      exact ⟨⟨_, rfl, HO.out⟩, HBr.out⟩
end Go.Proofs.YthlagpmacnijfaaDoor

namespace Go.Proofs
open Go.Shelf
def Tryd.lays156_ren : Go.Shelf.Ren := ⟨fun | 156 => 18 | 165 => 43 | 166 => 44 | 169 => 45 | 240 => 70 | 241 => 71 | 276 => 89 | 277 => 90 | n => n, fun | 31 => 45 | 9 => 9 | 3 => 3 | 4 => 4 | 0 => 0 | 20 => 20 | 72 => 82 | 76 => 86 | 70 => 79 | 37 => 80 | 75 => 85 | 127 => 115 | 164 => 130 | 5 => 5 | 80 => 62 | n => n, fun | n => n⟩
theorem Tryd.lays156 : Go.Proofs.Lays.n156 Tryd.prog Tryd.lays156_ren := {
  mixed := by kernel_rfl
  f156 := Tryd.func18.trans (congrArg some (by kernel_rfl))
  f165 := Tryd.func43.trans (congrArg some (by kernel_rfl))
  f166 := Tryd.func44.trans (congrArg some (by kernel_rfl))
  f169 := Tryd.func45.trans (congrArg some (by kernel_rfl))
  f240 := Tryd.func70.trans (congrArg some (by kernel_rfl))
  f241 := Tryd.func71.trans (congrArg some (by kernel_rfl))
  f276 := Tryd.func89.trans (congrArg some (by kernel_rfl))
  f277 := Tryd.func90.trans (congrArg some (by kernel_rfl))
  t0 := Tryd.underlying0
  a0 := Tryd.isAgg0
  z0 := Tryd.sizeOf0
  v0 := Tryd.zeroValue0
  t3 := Tryd.underlying3
  a3 := Tryd.isAgg3
  z3 := Tryd.sizeOf3
  v3 := Tryd.zeroValue3
  t4 := Tryd.underlying4
  a4 := Tryd.isAgg4
  z4 := Tryd.sizeOf4
  v4 := Tryd.zeroValue4
  t9 := Tryd.underlying9
  a9 := Tryd.isAgg9
  z9 := Tryd.sizeOf9
  v9 := Tryd.zeroValue9
  t20 := Tryd.underlying20
  a20 := Tryd.isAgg20
  z20 := Tryd.sizeOf20
  v20 := Tryd.zeroValue20
  t31 := Tryd.underlying45
  a31 := Tryd.isAgg45
  z31 := Tryd.sizeOf45
  v31 := Tryd.zeroValue45
  t37 := Tryd.underlying80
  a37 := Tryd.isAgg80
  z37 := Tryd.sizeOf80
  v37 := Tryd.zeroValue80
  t70 := Tryd.underlying79
  a70 := Tryd.isAgg79
  z70 := Tryd.sizeOf79
  v70 := Tryd.zeroValue79
  t72 := Tryd.underlying82
  a72 := Tryd.isAgg82
  z72 := Tryd.sizeOf82
  v72 := Tryd.zeroValue82
  t75 := Tryd.underlying85
  a75 := Tryd.isAgg85
  z75 := Tryd.sizeOf85
  v75 := Tryd.zeroValue85
  t76 := Tryd.underlying86
  a76 := Tryd.isAgg86
  z76 := Tryd.sizeOf86
  v76 := Tryd.zeroValue86
  t127 := Tryd.underlying115
  a127 := Tryd.isAgg115
  z127 := Tryd.sizeOf115
  v127 := Tryd.zeroValue115
  t164 := Tryd.underlying130
  a164 := Tryd.isAgg130
  z164 := Tryd.sizeOf130
  v164 := Tryd.zeroValue130 }
theorem Tryd.Builder_Extra_156 : Builder.Extra Tryd.prog Tryd.lays156_ren := {
  sizeBuilder := by kernel_rfl
  liesBuilder := by kernel_rfl
  t5 := Tryd.underlying5
  a5 := Tryd.isAgg5
  z5 := Tryd.sizeOf5
  v5 := Tryd.zeroValue5
  infoByte := by kernel_rfl
  cellsByte := by kernel_rfl
  sizeByte := by kernel_rfl
  neB5 := by decide }
open Go.RowKit in
theorem Tryd.strings_Join (bk o c : Nat) (xs : List ByteArray) (sep : ByteArray) (w : World) (hcells : ∀ (j : Nat) x, xs[j]? = some x → w.cell? ⟨bk, o + j, none⟩ = some (.string x)) (hbk : bk < w.heap.size) (hN : xs.length ≤ 140737488355328) (hcap : xs.length ≤ c) (hlen : (Lib.join (xs.map (·.data.toList)) sep.data.toList).length ≤ 140737488355328) :
    Calls Tryd.prog 18 #[.slice (some ⟨bk, o, none⟩) xs.length c, .string sep] w fun e w' => e = .returned (.string ⟨(Lib.join (xs.map (·.data.toList)) sep.data.toList).toArray⟩) ∧ Below w.heap.size w w' := Any.strings_Join Tryd.lays156 Tryd.Builder_Extra_156 bk o c xs sep w hcells hbk hN hcap hlen
end Go.Proofs

namespace Go.Proofs.YthlagpmacnijfaaDoor
open Go.RowKit

def octs (a : Nat) : List (List UInt8) := [Lib.decDigits (a / 16777216), Lib.decDigits (a / 65536 % 256), Lib.decDigits (a / 256 % 256), Lib.decDigits (a % 256)]
def scells (ls : List (List UInt8)) : List Value := ls.map fun l => .string (strOf l)
theorem u32_and_255 (x : Nat) (hx : x < 4294967296) : bits .and .u32 (x : Int) 255 = ((x % 256 : Nat) : Int) := by
  show IntKind.u32.wrap ((BitVec.ofInt 32 (x : Int) &&& BitVec.ofInt 32 (255 : Int)).toNat : Int) = _
  rw [BitVec.toNat_and, BitVec.ofInt_natCast, BitVec.toNat_ofNat, Nat.mod_eq_of_lt (by omega), show (BitVec.ofInt 32 (255 : Int)).toNat = 2 ^ 8 - 1 from rfl, Nat.and_two_pow_sub_one_eq_mod, IntKind.wrap_u32]
  omega
/-- The pieces so far. -/
def Pieces (a : Nat) (wb : World) (k : Nat) (v : Value) (wr : World) : Prop :=
  ∃ av c, v = .slice av k c ∧ wr.ownsRow wb.heap.size 9 1 (.slice av k c) k (scells ((octs a).take k)) ∧ Below wb.heap.size wb wr
theorem one_str (t : ByteArray) : ∀ u ∈ [Value.string t], u.oneCell' = true := by
  intro u hu; simp at hu; subst hu; rfl
theorem news_str (w : World) (x : Value) (t : TypeId) : ∀ ad, (some (⟨w.heap.size, 0, none⟩ : Addr)) = some ad → ∀ j u, [x][j]? = some u → (w.alloc (.cells #[x] t)).cell? (ad.add j) = some u := by
  intro ad h j u hj
  cases h
  exact news_one w x t j u hj
theorem join_text (a : Nat) : Lib.join (((octs a).map strOf).map (·.data.toList)) (⟨#[46]⟩ : ByteArray).data.toList = Ad.text a := by
  unfold octs Ad.text
  simp only [List.map_cons, List.map_nil, strOf_list, Lib.join]
  simp [List.intercalate]
theorem text_short (a : Nat) (ha : a < 4294967296) : (Ad.text a).length ≤ 43 := by
  have h1 := dec_short (a / 16777216) (by omega)
  have h2 := dec_short (a / 65536 % 256) (by omega)
  have h3 := dec_short (a / 256 % 256) (by omega)
  have h4 := dec_short (a % 256) (by omega)
  unfold Ad.text
  simp only [List.length_append, List.length_cons]
  omega
theorem itoa_short (b : Int) (b0 : -9223372036854775808 ≤ b) (b1 : b ≤ 9223372036854775807) : (Lib.itoa b).length ≤ 21 := by
  unfold Lib.itoa
  split
  · have := dec_len 19 b.natAbs (by omega)
    simp only [List.length_cons]
    omega
  · have := dec_len 19 b.toNat (by omega)
    omega
theorem net_text (x y : List UInt8) : strOf x ++ (⟨#[47]⟩ : ByteArray) ++ strOf y = ⟨(x ++ 47 :: y).toArray⟩ := by
  apply WideShapes.bytes_inj
  simp only [ByteArray.data_append, Array.toList_append, strOf_list, List.append_assoc, List.cons_append, List.nil_append]
theorem info_str : ∃ i, Tryd.prog.info? 9 = some i ∧ i.zero = some (.string ByteArray.empty) ∧ i.size = 1 ∧ i.bytes = 16 := info_parts (by kernel_rfl)

set_option maxRecDepth 100000 in
set_option maxHeartbeats 800000 in
theorem keep_NetText (a : Nat) (b : Int) (w : World) (ha : a < 4294967296) (b0 : -9223372036854775808 ≤ b) (b1 : b ≤ 9223372036854775807) (hT : PowTab w) :
    Calls Tryd.prog 39 #[.agg #[.int .u32 (a : Int), .int .i64 b]] w fun e w' => e = .returned (.string ⟨(Ad.text a ++ 47 :: Lib.itoa b).toArray⟩) ∧ Below w.heap.size w w' := by
  obtain ⟨wb, hwb⟩ : ∃ wb, wb = w.alloc (.cells #[.int .u32 (a : Int), .int .i64 b] 24) := ⟨_, rfl⟩
  have hbw : Below w.heap.size w wb := by rw [hwb]; exact (Below.refl _ _).alloc (Nat.le_refl _) _
  have HT := Lib.hid (hT.below hbw)
  have hzb : wb.heap.size = w.heap.size + 1 := by rw [hwb]; simp
  have HB := Lib.hid hbw
  have C0 : Hid (∀ W, Below wb.heap.size wb W → W.cell? ⟨w.heap.size, 0, none⟩ = some (.int .u32 (a : Int))) := Lib.hid fun W hW => by
    rw [hW.cell (show (⟨w.heap.size, 0, none⟩ : Addr).block < wb.heap.size by show w.heap.size < _; omega), hwb, cell_of_row _ _ 0 _ _ _ (heap_alloc_last w _)]; rfl
  have C1 : Hid (∀ W, Below wb.heap.size wb W → W.cell? ⟨w.heap.size, 1, none⟩ = some (.int .i64 b)) := Lib.hid fun W hW => by
    rw [hW.cell (show (⟨w.heap.size, 1, none⟩ : Addr).block < wb.heap.size by show w.heap.size < _; omega), hwb, cell_of_row _ _ 1 _ _ _ (heap_alloc_last w _)]; rfl
  have HW := Lib.hid hwb
  obtain ⟨i0, hi0⟩ := info_str
  have Hi := Lib.hid hi0
  clear hT hbw hwb hi0 hzb
  go_enter Tryd.func39, Tryd.ntmps39
  go_wp2
  go_loopw [3, 4] (fun v i wr => ∃ k : Nat, k ≤ 4 ∧ i = .int .i64 (24 - 8 * (k : Int)) ∧ Pieces a wb k v wr) (fun _ i _ => (intOf i + 8).toNat)
  case atStart => exact ⟨0, by decide, rfl, none, 0, rfl, World.ownsRow_nil _ _ _ _, by rw [HW.out]; exact Below.refl _ _⟩
  case round =>
    obtain ⟨k, hk, rfl, av, c, rfl, ho, hB⟩ := hrel
    have c0 := C0.out _ hB
    have c1 := C1.out _ hB
    have hk4 : k = 0 ∨ k = 1 ∨ k = 2 ∨ k = 3 ∨ k = 4 := by omega
    clear hk
    rcases hk4 with rfl | rfl | rfl | rfl | rfl
    · rw [show (24 - 8 * ((0 : Nat) : Int)) = (24 : Int) from rfl]
      have q : bits .and .u32 ((a : Int) / 16777216) 255 = ((a / 16777216 : Nat) : Int) := by have := u32_and_255 (a / 16777216) (by omega); rw [Nat.mod_eq_of_lt (by omega)] at this; exact this
      go_wp2_with fail
      refine (itoa_from (a / 16777216) (by omega) wr wr (Below.refl _ _) (HT.out.below hB)).mono ?_
      rintro e w1 ⟨t, rfl, Ht, zt, hB1⟩
      have ho1 := own_below ho hB1
      have hb1 := hB.trans (hB1.mono hB.size)
      have hz1 := hb1.size
      clear ho hB hB1 q
      go_wp2_with (at_builtin; refine wpList_append_any _ rfl _ _ 45 rfl wb.heap.size 9 i0 (.string ByteArray.empty) 16 Tryd.underlying45 Hi.out.1 Hi.out.2.1 Hi.out.2.2.1 Hi.out.2.2.2 rfl av 0 c _ rfl (ho1.alloc _) _ 1 _ [.string t] rfl rfl ?e2 (news_str _ _ _) (one_str _) ?e4 ?e5 ?e6 ?_)
      case e2 => intro h; cases h
      case e4 => decide
      case e5 => decide
      case e6 => simp; omega
      intro a4 c4 w4 ho4 hg4
      have hB4 : Below wb.heap.size wb w4 := below_own (hb1.alloc hz1 _) (ho1.alloc _) hg4 (Nat.le_refl _) (by simp; omega)
      have HP : Hid (Pieces a wb 1 (.slice a4 1 c4) w4) := Lib.hid ⟨_, _, rfl, by
        have e : t = strOf (Lib.decDigits (a / 16777216)) := by rw [← Ht.out, strOf_eq]
        rw [e] at ho4
        exact ho4, hB4⟩
      clear ho4 hg4 hB4 ho1 hb1
      go_wp2
      go_roundw
      case rel => exact ⟨1, by decide, rfl, HP.out⟩
      case measure => simp [intOf]
    · rw [show (24 - 8 * ((1 : Nat) : Int)) = (16 : Int) from rfl]
      have q : bits .and .u32 ((a : Int) / 65536) 255 = ((a / 65536 % 256 : Nat) : Int) := u32_and_255 (a / 65536) (by omega)
      go_wp2_with fail
      refine (itoa_from (a / 65536 % 256) (by omega) wr wr (Below.refl _ _) (HT.out.below hB)).mono ?_
      rintro e w1 ⟨t, rfl, Ht, zt, hB1⟩
      have ho1 := own_below ho hB1
      have hb1 := hB.trans (hB1.mono hB.size)
      have hz1 := hb1.size
      clear ho hB hB1 q
      go_wp2_with (at_builtin; refine wpList_append_any _ rfl _ _ 45 rfl wb.heap.size 9 i0 (.string ByteArray.empty) 16 Tryd.underlying45 Hi.out.1 Hi.out.2.1 Hi.out.2.2.1 Hi.out.2.2.2 rfl av 1 c _ rfl (ho1.alloc _) _ 1 _ [.string t] rfl rfl ?e2 (news_str _ _ _) (one_str _) ?e4 ?e5 ?e6 ?_)
      case e2 => intro h; cases h
      case e4 => decide
      case e5 => decide
      case e6 => simp; omega
      intro a4 c4 w4 ho4 hg4
      have hB4 : Below wb.heap.size wb w4 := below_own (hb1.alloc hz1 _) (ho1.alloc _) hg4 (Nat.le_refl _) (by simp; omega)
      have HP : Hid (Pieces a wb 2 (.slice a4 2 c4) w4) := Lib.hid ⟨_, _, rfl, by
        have e : t = strOf (Lib.decDigits (a / 65536 % 256)) := by rw [← Ht.out, strOf_eq]
        rw [e] at ho4
        exact ho4, hB4⟩
      clear ho4 hg4 hB4 ho1 hb1
      go_wp2
      go_roundw
      case rel => exact ⟨2, by decide, rfl, HP.out⟩
      case measure => simp [intOf]
    · rw [show (24 - 8 * ((2 : Nat) : Int)) = (8 : Int) from rfl]
      have q : bits .and .u32 ((a : Int) / 256) 255 = ((a / 256 % 256 : Nat) : Int) := u32_and_255 (a / 256) (by omega)
      go_wp2_with fail
      refine (itoa_from (a / 256 % 256) (by omega) wr wr (Below.refl _ _) (HT.out.below hB)).mono ?_
      rintro e w1 ⟨t, rfl, Ht, zt, hB1⟩
      have ho1 := own_below ho hB1
      have hb1 := hB.trans (hB1.mono hB.size)
      have hz1 := hb1.size
      clear ho hB hB1 q
      go_wp2_with (at_builtin; refine wpList_append_any _ rfl _ _ 45 rfl wb.heap.size 9 i0 (.string ByteArray.empty) 16 Tryd.underlying45 Hi.out.1 Hi.out.2.1 Hi.out.2.2.1 Hi.out.2.2.2 rfl av 2 c _ rfl (ho1.alloc _) _ 1 _ [.string t] rfl rfl ?e2 (news_str _ _ _) (one_str _) ?e4 ?e5 ?e6 ?_)
      case e2 => intro h; cases h
      case e4 => decide
      case e5 => decide
      case e6 => simp; omega
      intro a4 c4 w4 ho4 hg4
      have hB4 : Below wb.heap.size wb w4 := below_own (hb1.alloc hz1 _) (ho1.alloc _) hg4 (Nat.le_refl _) (by simp; omega)
      have HP : Hid (Pieces a wb 3 (.slice a4 3 c4) w4) := Lib.hid ⟨_, _, rfl, by
        have e : t = strOf (Lib.decDigits (a / 256 % 256)) := by rw [← Ht.out, strOf_eq]
        rw [e] at ho4
        exact ho4, hB4⟩
      clear ho4 hg4 hB4 ho1 hb1
      go_wp2
      go_roundw
      case rel => exact ⟨3, by decide, rfl, HP.out⟩
      case measure => simp [intOf]
    · rw [show (24 - 8 * ((3 : Nat) : Int)) = (0 : Int) from rfl]
      have q : bits .and .u32 ((a : Int)) 255 = ((a % 256 : Nat) : Int) := u32_and_255 a ha
      go_wp2_with fail
      refine (itoa_from (a % 256) (by omega) wr wr (Below.refl _ _) (HT.out.below hB)).mono ?_
      rintro e w1 ⟨t, rfl, Ht, zt, hB1⟩
      have ho1 := own_below ho hB1
      have hb1 := hB.trans (hB1.mono hB.size)
      have hz1 := hb1.size
      clear ho hB hB1 q
      go_wp2_with (at_builtin; refine wpList_append_any _ rfl _ _ 45 rfl wb.heap.size 9 i0 (.string ByteArray.empty) 16 Tryd.underlying45 Hi.out.1 Hi.out.2.1 Hi.out.2.2.1 Hi.out.2.2.2 rfl av 3 c _ rfl (ho1.alloc _) _ 1 _ [.string t] rfl rfl ?e2 (news_str _ _ _) (one_str _) ?e4 ?e5 ?e6 ?_)
      case e2 => intro h; cases h
      case e4 => decide
      case e5 => decide
      case e6 => simp; omega
      intro a4 c4 w4 ho4 hg4
      have hB4 : Below wb.heap.size wb w4 := below_own (hb1.alloc hz1 _) (ho1.alloc _) hg4 (Nat.le_refl _) (by simp; omega)
      have HP : Hid (Pieces a wb 4 (.slice a4 4 c4) w4) := Lib.hid ⟨_, _, rfl, by
        have e : t = strOf (Lib.decDigits (a % 256)) := by rw [← Ht.out, strOf_eq]
        rw [e] at ho4
        exact ho4, hB4⟩
      clear ho4 hg4 hB4 ho1 hb1
      go_wp2
      go_roundw
      case rel => exact ⟨4, by decide, rfl, HP.out⟩
      case measure => simp [intOf]
    · rw [show (24 - 8 * ((4 : Nat) : Int)) = (-8 : Int) from rfl]
      have HBb := Lib.hid (HB.out.trans (hB.mono HB.out.size))
      have Hcp := own_cap ho
      obtain ⟨g, rfl, hg1, hg2⟩ := own_form ho (by decide)
      have C1' : Hid (∀ W, Below wr.heap.size wr W → W.cell? ⟨w.heap.size, 1, none⟩ = some (.int .i64 b)) := Lib.hid fun W hW => C1.out W (hB.trans (hW.mono hB.size))
      have HJ : Hid (∀ W, (W.cell? ⟨w.heap.size, 1, none⟩ = some (.int .i64 b) ∧ Below wr.heap.size wr W) → Calls Tryd.prog 18 #[.slice (some ⟨g, 0, none⟩) 4 c, .string ⟨#[46]⟩] W fun e W' => e = .returned (.string (strOf (Ad.text a))) ∧ (W'.cell? ⟨w.heap.size, 1, none⟩ = some (.int .i64 b) ∧ Below wr.heap.size wr W')) := Lib.hid fun W hW => by
        have hj := Tryd.strings_Join g 0 c ((octs a).map strOf) ⟨#[46]⟩ W (fun j x hj => by
          rw [hW.2.cell (show (⟨g, 0 + j, none⟩ : Addr).block < wr.heap.size from hg2), Nat.zero_add]
          refine own_cell ho ?_
          rw [show (octs a).take 4 = octs a from rfl]
          unfold scells
          rw [List.getElem?_map] at hj ⊢
          cases ho' : (octs a)[j]? with
          | none => rw [ho'] at hj; cases hj
          | some l => rw [ho'] at hj; injection hj with hj; rw [← hj]; rfl) (Nat.lt_of_lt_of_le hg2 hW.2.size) (by show 4 ≤ _; decide) Hcp.1 (by rw [join_text]; have := text_short a ha; omega)
        rw [join_text] at hj
        refine hj.mono ?_
        rintro e W' ⟨rfl, hb⟩
        have hB' := hW.2.trans (hb.mono hW.2.size)
        exact ⟨rfl, C1'.out _ hB', hB'⟩
      have HI : Hid (∀ W, (W.cell? ⟨w.heap.size, 1, none⟩ = some (.int .i64 b) ∧ Below wr.heap.size wr W) → Calls Tryd.prog 31 #[.int .i64 b] W fun e W' => e = .returned (.string (strOf (Lib.itoa b))) ∧ (W'.cell? ⟨w.heap.size, 1, none⟩ = some (.int .i64 b) ∧ Below wr.heap.size wr W')) := Lib.hid fun W hW => by
        refine (lib_Itoa b W b0 b1 ((HT.out.below hB).below hW.2)).mono ?_
        rintro e W' ⟨rfl, hb⟩
        have hB' := hW.2.trans (hb.mono hW.2.size)
        exact ⟨rfl, C1'.out _ hB', hB'⟩
      have z1 : (strOf (Ad.text a)).size ≤ 100 := by rw [strOf_size]; have := text_short a ha; omega
      have z2 : (strOf (Lib.itoa b)).size ≤ 100 := by rw [strOf_size]; have := itoa_short b b0 b1; omega
      have HX := Lib.hid (show (strOf (Ad.text a) ++ (⟨#[47]⟩ : ByteArray) ++ strOf (Lib.itoa b)) = ⟨(Ad.text a ++ 47 :: Lib.itoa b).toArray⟩ from net_text _ _)
      generalize strOf (Ad.text a) = X at *
      generalize strOf (Lib.itoa b) = Y at *
      have sz1 : (X ++ (⟨#[47]⟩ : ByteArray)).size = X.size + 1 := by rw [ByteArray.size_append]; rfl
      have n1 : (X.size + (⟨#[47]⟩ : ByteArray).size > 9223372036854775807) = False := eq_false (by show ¬ (X.size + 1 > _); omega)
      have n2 : ((X ++ (⟨#[47]⟩ : ByteArray)).size + Y.size > 9223372036854775807) = False := eq_false (by rw [sz1]; omega)
      have n3 : (9223372036854775807 < X.size + 1) = False := eq_false (by omega)
      have n4 : (9223372036854775807 < X.size + 1 + Y.size) = False := eq_false (by omega)
      clear z1 z2
      clear ho hB Hcp c0 hg1 hg2
      go_wp2_with fail
      go_region_held3 (fun W => W.cell? ⟨w.heap.size, 1, none⟩ = some (.int .i64 b) ∧ Below wr.heap.size wr W) (first | assumption | (exact ⟨c1, (Below.refl _ _).drew⟩))
        (first
          | (go_at_call 18; refine (HJ.out _ (by first | assumption | exact ⟨c1, (Below.refl _ _).drew⟩)).mono ?_; rintro e w5 ⟨rfl, hS5⟩)
          | (go_at_call 31; refine (HI.out _ (by first | assumption | exact ⟨c1, (Below.refl _ _).drew⟩)).mono ?_; rintro e w6 ⟨rfl, hS6⟩))
      go_wp2
      go_ret
      exact ⟨by rw [HX.out]; rfl, HBb.out.trans (hS6.2.mono HBb.out.size)⟩
end Go.Proofs.YthlagpmacnijfaaDoor

namespace Go.Proofs.YthlagpmacnijfaaDoor
open Go.RowKit

/-- The cells of n texts, the first ones written. -/
def tcells (done : List ByteArray) (n : Nat) : List Value := done.map Value.string ++ List.replicate (n - done.length) (.string ByteArray.empty)
theorem tcells_length (done : List ByteArray) (n : Nat) (h : done.length ≤ n) : (tcells done n).length = n := by unfold tcells; simp; omega
theorem tcells_old (done : List ByteArray) (n : Nat) (h : done.length < n) : (tcells done n)[done.length]? = some (.string ByteArray.empty) := by
  unfold tcells
  rw [List.getElem?_append_right (by simp), List.length_map, Nat.sub_self]
  rw [List.getElem?_replicate, if_pos (by omega)]
theorem tcells_set (done : List ByteArray) (n : Nat) (h : done.length < n) (x : ByteArray) : (tcells done n).set done.length (.string x) = tcells (done ++ [x]) n := by
  unfold tcells
  rw [List.set_append_right (h := by simp), List.length_map, Nat.sub_self, List.map_append, List.append_assoc]
  congr 1
  obtain ⟨m, hm⟩ : ∃ m, n - done.length = m + 1 := ⟨n - done.length - 1, by omega⟩
  rw [hm, List.replicate_succ, List.set_cons_zero, List.length_append, List.length_singleton]
  rw [show n - (done.length + 1) = m by omega]
  rfl
theorem tcells_full (done : List ByteArray) (n : Nat) (h : done.length = n) : tcells done n = done.map Value.string := by
  unfold tcells
  rw [show n - done.length = 0 by omega]
  simp
theorem make_texts (n : Nat) (hn : n ≤ 1000000) : ∀ W, (Instr.makeSlice 45 (.int .i64 (n : Int)) (.int .i64 (n : Int))).run Tryd.prog W = .ok (.slice (some ⟨W.heap.size, 0, none⟩) n n) (W.alloc (.cells (tcells [] n).toArray 9)) := fun W => by
  have hr := run_make_row' (P := Tryd.prog) 45 9 (.string ByteArray.empty) 16 Tryd.underlying45 (by kernel_rfl) rfl .i64 .i64 n (by omega) (by omega) W
  have e : madeCells #[Value.string ByteArray.empty] n = (tcells [] n).toArray := by
    unfold tcells
    rw [List.map_nil, List.nil_append, List.length_nil, Nat.sub_zero, ← toList_madeCells_one]
  rw [e] at hr
  exact hr
theorem joinTail_glue (c : UInt8) : ∀ (x : List UInt8) (r : List (List UInt8)), x ++ Lib.joinTail [c] r = Ad.glue c (x :: r) := by
  intro x r
  induction r generalizing x with
  | nil => simp [Lib.joinTail, Ad.glue]
  | cons y r ih =>
    rw [Ln.glue_cons, ← ih]
    simp [Lib.joinTail]
theorem join_glue (c : UInt8) : ∀ (l : List (List UInt8)), Lib.join l [c] = Ad.glue c l := by
  intro l
  cases l with
  | nil => rfl
  | cons x r => rw [Lib.join_cons, joinTail_glue]
end Go.Proofs.YthlagpmacnijfaaDoor

namespace Go.Proofs.YthlagpmacnijfaaDoor
open Go.RowKit

theorem texts_one (l : List ByteArray) : ∀ v ∈ l.map Value.string, v.oneCell' = true := by
  intro v hv
  obtain ⟨x, _, rfl⟩ := List.mem_map.1 hv
  rfl
/-- The texts so far, in a row of the call's own. -/
def OwnT (w : World) (B : Nat) (v : Value) (l : List ByteArray) : Prop := ∃ a c, v = .slice a l.length c ∧ w.ownsRow B 9 1 (.slice a l.length c) l.length (l.map Value.string)
theorem OwnT.nil (w : World) (B : Nat) : OwnT w B (.slice none 0 0) [] := ⟨none, 0, rfl, World.ownsRow_nil _ _ _ _⟩
theorem own_toT {w : World} {B n : Nat} {v : Value} {xs : List Value} (h : w.ownsRow B 9 1 v n xs) : ∃ a c, v = .slice a n c := by
  rcases h.2 with ⟨rfl, rfl⟩ | ⟨g, cap, cur, rfl, _⟩
  · exact ⟨none, 0, rfl⟩
  · exact ⟨_, cap, rfl⟩
theorem OwnT.alloc {w : World} {B : Nat} {v : Value} {l : List ByteArray} (h : OwnT w B v l) (o : Obj) : OwnT (w.alloc o) B v l := by
  obtain ⟨a, c, e, ho⟩ := h
  exact ⟨a, c, e, ho.alloc o⟩
theorem OwnT.below {w w' : World} {B : Nat} {v : Value} {l : List ByteArray} (h : OwnT w B v l) (hb : Below w.heap.size w w') : OwnT w' B v l := by
  obtain ⟨a, c, e, ho⟩ := h
  exact ⟨a, c, e, own_below ho hb⟩
theorem wpL_append_text (w : World) {ops : Array Oper} {rest : List Oper} {o : Oper} {a : Act} {Q : Exit → Act → World → Prop} (hgd : o.guard = none) (s x : Operand)
    (ho : o.op = .call { callee := .builtin .append, args := #[s, x], argTypes := #[45, 45] }) (B : Nat) (v : Value) (l : List ByteArray) (hs : a.eval s = v) (hO : OwnT w B v l)
    (ad : Addr) (m c : Nat) (news : List ByteArray) (hx : a.eval x = .slice (some ad) m c) (hm : news.length = m) (hnews : ∀ j u, (news.map Value.string)[j]? = some u → w.cell? (ad.add j) = some u) (hmax : l.length + m ≤ 2518437208883) (hB : B ≤ w.heap.size)
    (h : ∀ v' w', OwnT w' B v' (l ++ news) → Below B w w' → wpList Tryd.prog ops Q rest (a.put o.dst v') w') : wpList Tryd.prog ops Q (o :: rest) a w := by
  obtain ⟨i, hi, hz0, hz1, hz2⟩ := info_str
  obtain ⟨av, cv, rfl, hown⟩ := hO
  refine wpList_append_own w hgd s x 45 ho B 9 i _ 1 16 Tryd.underlying45 hi hz0 hz1 hz2 rfl (by decide) _ l.length _ hs hown ad m c (news.map Value.string) hx (by rw [List.length_map, hm, Nat.mul_one]) hnews (texts_one _) (by unfold maxLen; omega) (by omega) hB ?_
  intro v' w' ho' hg _
  obtain ⟨a', c', rfl⟩ := own_toT ho'
  refine h _ w' ⟨a', c', by rw [List.length_append, hm], ?_⟩ ((Below.refl B _).grown hg hB (fun k hk => (hown.lt k hk).1))
  rw [List.length_append, hm, List.map_append]
  exact ho'
set_option maxHeartbeats 400000 in
theorem join_nil (c : Nat) (sep : ByteArray) (w : World) : Calls Tryd.prog 18 #[.slice none 0 c, .string sep] w fun e w' => e = .returned (.string ⟨#[]⟩) ∧ Below w.heap.size w w' := by
  go_enter Tryd.func18, Tryd.ntmps18
  go_wp2
  go_ret
  exact ⟨rfl, Below.refl _ _⟩
theorem keep_joined (l : List ByteArray) (v : Value) (B : Nat) (w : World) (h : OwnT w B v l) (hn : l.length ≤ 1000000) (hl : ∀ x ∈ l, x.size ≤ 1000) :
    Calls Tryd.prog 18 #[v, .string ⟨#[10]⟩] w fun e w' => e = .returned (.string (Ln.ofT (Ad.glue 10 (l.map (·.data.toList))))) ∧ Below w.heap.size w w' := by
  obtain ⟨a, c, rfl, ho⟩ := h
  have Hcp := own_cap ho
  rcases id ho.2 with ⟨hv, h0⟩ | ⟨g, cap, cur, hv, hb, hh, -⟩
  · have hl0 : l = [] := List.length_eq_zero_iff.1 (by simpa using h0)
    subst hl0
    injection hv with h1 h2 h3
    subst h1
    exact join_nil c _ w
  · injection hv with h1 h2 h3
    subst h1
    have hg2 : g < w.heap.size := (ho.lt g rfl).2
    have hjl : Lib.join (l.map (·.data.toList)) (⟨#[10]⟩ : ByteArray).data.toList = Ad.glue 10 (l.map (·.data.toList)) := join_glue 10 _
    have hlen := Ln.glue_length 10 1000 (l.map (·.data.toList)) (by
      intro p hp
      obtain ⟨x, hx, rfl⟩ := List.mem_map.1 hp
      have := hl x hx
      rw [ByteArray.size] at this
      simpa using this)
    rw [List.length_map] at hlen
    have hj := Tryd.strings_Join g 0 c l ⟨#[10]⟩ w (fun j x hj => by
      rw [Nat.zero_add]
      refine own_cell ho ?_
      rw [List.getElem?_map, hj]; rfl) hg2 (by omega) Hcp.1 (by rw [hjl]; omega)
    rw [hjl] at hj
    exact hj
end Go.Proofs.YthlagpmacnijfaaDoor

namespace Go.Proofs.YthlagpmacnijfaaDoor
open Go.RowKit

def nameCells : List Value := [.string ⟨#[]⟩, .string ⟨#[112, 114, 105, 118, 97, 116, 101, 95, 107, 101, 121]⟩, .string ⟨#[108, 105, 115, 116, 101, 110, 95, 112, 111, 114, 116]⟩, .string ⟨#[114, 101, 112, 108, 97, 99, 101, 95, 112, 101, 101, 114, 115]⟩, .string ⟨#[112, 117, 98, 108, 105, 99, 95, 107, 101, 121]⟩, .string ⟨#[114, 101, 109, 111, 118, 101]⟩, .string ⟨#[112, 114, 101, 115, 104, 97, 114, 101, 100, 95, 107, 101, 121]⟩, .string ⟨#[101, 110, 100, 112, 111, 105, 110, 116]⟩, .string ⟨#[112, 101, 114, 115, 105, 115, 116, 101, 110, 116, 95, 107, 101, 101, 112, 97, 108, 105, 118, 101, 95, 105, 110, 116, 101, 114, 118, 97, 108]⟩, .string ⟨#[114, 101, 112, 108, 97, 99, 101, 95, 97, 108, 108, 111, 119, 101, 100, 95, 105, 112, 115]⟩, .string ⟨#[97, 108, 108, 111, 119, 101, 100, 95, 105, 112]⟩]
theorem nameCells_at (k : Nat) (h : k ≤ 10) : nameCells[k]? = some (.string (Bt.nameOf k)) := by
  have : k = 0 ∨ k = 1 ∨ k = 2 ∨ k = 3 ∨ k = 4 ∨ k = 5 ∨ k = 6 ∨ k = 7 ∨ k = 8 ∨ k = 9 ∨ k = 10 := by omega
  rcases this with rfl | rfl | rfl | rfl | rfl | rfl | rfl | rfl | rfl | rfl | rfl <;> rfl
end Go.Proofs.YthlagpmacnijfaaDoor
