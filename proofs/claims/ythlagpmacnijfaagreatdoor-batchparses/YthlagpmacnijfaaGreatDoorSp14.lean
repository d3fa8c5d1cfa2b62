/- What the listed variables give: Go's library's, and the landed code's table of kinds; a world for the witness. -/
import Derived.Test.YthlagpmacnijfaaGreatDoorRows
import Derived.Test.YthlagpmacnijfaaGreatDoorMem
import Derived.ProofKit
import Derived.OpenShut
import Derived.ShutString
import Derived.ChangeOld
import Derived.Below
import Derived.SizedLaws
import Derived.Test.YthlagpmacnijfaaGreatDoorCards
import Derived.Test.YthlagpmacnijfaaGreatDoorTie
import Derived.Test.YthlagpmacnijfaaGreatDoorSp09
import Derived.Deep.DeepHandedRow
import Derived.Deep.DeepLaidRun
import Derived.Lib.LaidTab
import Derived.MakeChecks
import Derived.Stop.LaidErr
import Derived.Test.YthlagpmacnijfaaGreatDoorSp10
namespace Go.Proofs.YthlagpmacnijfaaGreatDoor
open Go.ChangeShapes Go.WideShapes Go.ChangeAt Go.RowKit

theorem own_knob : ownKnob Tryz.prog.godebug = none := by kernel_rfl
theorem laid_out : laidOutB Tryz.prog = true := by kernel_rfl

theorem lt_of_cell {w : World} {a : Addr} {v : Value} (h : w.cell? a = some v) : a.block < w.heap.size := by
  rcases Nat.lt_or_ge a.block w.heap.size with hlt | hge
  · exact hlt
  · simp [World.cell?, Array.getElem?_eq_none hge] at h

theorem byte_wf {n : Int} (h : (Lit.int .u8 n).wf = true) : ((UInt8.ofNat n.toNat).toNat : Int) = n := by
  have hb := bounds_u8 h
  rw [UInt8.toNat_ofNat', Nat.mod_eq_of_lt (by omega)]
  omega
end Go.Proofs.YthlagpmacnijfaaGreatDoor

namespace Go.Proofs.YthlagpmacnijfaaGreatDoor
open Go.ChangeShapes Go.WideShapes Go.ChangeAt Go.RowKit

theorem gPow : Tryz.prog.globalNamed "internal/strconv.uint64pow10" = some 4 := by kernel_rfl
theorem gPowType : (Tryz.prog.globals[4]?).map (·.type) = some 147 := by kernel_rfl
theorem cellsPow : Tryz.prog.cellsOf 147 = 20 := by kernel_rfl
theorem cellsU64 : Tryz.prog.cellsOf 120 = 1 := by kernel_rfl
theorem gRange : Tryz.prog.globalNamed "strconv.ErrRange" = some 3 := by kernel_rfl
theorem gRangeType : (Tryz.prog.globals[3]?).map (·.type) = some 62 := by kernel_rfl
theorem gSyntax : Tryz.prog.globalNamed "strconv.ErrSyntax" = some 2 := by kernel_rfl
theorem gSyntaxType : (Tryz.prog.globals[2]?).map (·.type) = some 62 := by kernel_rfl
theorem cellsErr : Tryz.prog.cellsOf 145 = 1 := by kernel_rfl
theorem cellsStr : Tryz.prog.cellsOf 9 = 1 := by kernel_rfl
theorem star_err : "*" ++ "errors.errorString" = "*errors.errorString" := by decide
theorem row_err (u : TypeId) (h : Tryz.prog.typeName? 3 u = some "*errors.errorString") : u = 143 :=
  typeName_ptr_named (nm := "errors.errorString") (by rw [star_err]; kernel_rfl) (by kernel_rfl) (by decide) u (by rw [star_err]; exact h)
theorem pow_of_head {W : World} {r : List (String × DataW Unit)} (h : laidMet Tryz.prog (("internal/strconv.uint64pow10", Rows.laid_internal_strconv_uint64pow10) :: r) W) : PowTab W :=
  Lib.tabIs_of_head (k := .u64) (zs := Lib.pow10Tab) gPow gPowType Tryz.underlying147 Tryz.underlying120 cellsU64 cellsPow h
theorem err_of_head {W : World} {n : String} {g : Nat} {text : List UInt8} {r : List (String × DataW Unit)} (hg : Tryz.prog.globalNamed n = some g) (ht : (Tryz.prog.globals[g]?).map (·.type) = some 62)
    (h : laidMet Tryz.prog ((n, .iface "*errors.errorString" (.ptr (.agg [.lit (.string text)]))) :: r) W) : ∃ t p, W.cell? ⟨g, 0, none⟩ = some (.iface t p) := by
  obtain ⟨a, s, hv, _⟩ := laid_sentinel h hg ht Tryz.underlying62 row_err Tryz.underlying143 Tryz.underlying145 rfl rfl Tryz.underlying9 cellsErr cellsStr
  exact ⟨_, _, World.var?_cell hg hv 0⟩
theorem max_of_shaped {W : World} (h : W.ShapedOpen Tryz.prog) : MaxTab W := Tryz.laysM145.s1_3 W h

/-- The cells of a datum. -/
def flat : Nat → DataW Unit → List Value
  | n + 1, .agg ps => ps.flatMap (flat n)
  | _, .lit (.int k z) => [.int k z]
  | _, .lit (.string s) => [.string ⟨s.toArray⟩]
  | _, _ => []
/-- A block's cells anew. -/
def put (vs : List Value) : Obj → Obj
  | .cells _ t frozen => .cells vs.toArray t frozen
  | o => o
noncomputable def low : Nat := (World.holding Tryz.prog default ⟨#[], #[], []⟩).heap.size
abbrev rangeS : ByteArray := ⟨#[118, 97, 108, 117, 101, 32, 111, 117, 116, 32, 111, 102, 32, 114, 97, 110, 103, 101]⟩
abbrev syntaxS : ByteArray := ⟨#[105, 110, 118, 97, 108, 105, 100, 32, 115, 121, 110, 116, 97, 120]⟩
end Go.Proofs.YthlagpmacnijfaaGreatDoor

namespace Go.Proofs.YthlagpmacnijfaaGreatDoor
open Go.ChangeShapes Go.WideShapes Go.ChangeAt Go.RowKit

theorem gShapes : Tryz.prog.globalNamed "cattlecreep/batch.shapes" = some 0 := by kernel_rfl
theorem gShapesType : (Tryz.prog.globals[0]?).map (·.type) = some 58 := by kernel_rfl
theorem cellsShapes : Tryz.prog.cellsOf 58 = 22 := by kernel_rfl
theorem cellsShape : Tryz.prog.cellsOf 57 = 2 := by kernel_rfl
/-- The table as the row lists it. -/
theorem shapes_list : (Rows.laid_cattlecreep_batch_shapes : DataW Unit) = .agg ((List.range 11).map fun k => .agg [.lit (.string (Bt.nameOf k).data.toList), .lit (.int .i64 (Bt.fld (k : Int) : Int))]) := by kernel_rfl
set_option maxRecDepth 100000 in
theorem shape_cells {W : World} {base : Nat} {sp : Nat → Bool} {held : Bool} {n : Nat} {cs : List Value} {x : DataW Unit × List MemPlace} {s : ByteArray} {z : Int} {enc : TypeId × Value → Unit} (hl : cs.length = 2)
    (h : DataW.trod enc Tryz.prog W base sp held n 57 cs = some x) (hx : x.1 = .agg [.lit (.string s.data.toList), .lit (.int .i64 z)]) : cs = [.string s, .int .i64 z] := by
  obtain ⟨xs, m, _, ex, _, hxl, hf⟩ := DataW.trod_struct Tryz.underlying57 h
  match xs, hxl, cs, hl with
  | [y0, y1], _, [v0, v1], _ =>
    have g0 := hf 0 _ rfl
    have g1 := hf 1 _ rfl
    change DataW.trod enc Tryz.prog W base sp held m 9 [v0] = some y0 at g0
    change DataW.trod enc Tryz.prog W base sp held m 3 [v1] = some y1 at g1
    obtain ⟨k, e0, d0, _⟩ := DataW.trod_string Tryz.underlying9 g0
    obtain ⟨a, e1, d1, _⟩ := DataW.trod_int Tryz.underlying3 g1
    injection e0 with e0
    injection e1 with e1
    subst e0 e1
    rw [ex] at hx
    simp only [List.map_cons, List.map_nil, DataW.agg.injEq, List.cons.injEq, and_true] at hx
    obtain ⟨h0, h1⟩ := hx
    rw [d0] at h0
    rw [d1] at h1
    injection h0 with h0
    injection h0 with h0
    injection h1 with h1
    injection h1 with _ h1
    rw [h1, show k = s from WideShapes.bytes_inj (by exact h0)]
set_option maxRecDepth 100000 in
theorem shapes_of_head {W : World} {r : List (String × DataW Unit)} (h : laidMet Tryz.prog (("cattlecreep/batch.shapes", Rows.laid_cattlecreep_batch_shapes) :: r) W) : ShapeTab W := by
  obtain ⟨ps, ⟨g', t', csa, fuel, p, q, hg', ht', hvar, hd, _, _⟩, _⟩ := h
  obtain rfl := Option.some.inj (gShapes.symm.trans hg')
  obtain rfl := Option.some.inj (gShapesType.symm.trans ht')
  rw [shapes_list] at hd
  obtain ⟨cs, hcs⟩ : ∃ cs, cs = csa.toList := ⟨_, rfl⟩
  rw [← hcs] at hd
  obtain ⟨xs, m, _, ex, hcl, hxl, hf⟩ := DataW.trod_array Tryz.underlying58 hd
  rw [cellsShapes] at hcl
  rw [cellsShape] at hf
  have e3 := (DataW.agg.inj (Prod.mk.inj ex).1).symm
  have key : ∀ k, k < 11 → (cs.drop (k * 2)).take 2 = [.string (Bt.nameOf k), .int .i64 (Bt.fld (k : Int) : Int)] := by
    intro k hk
    have hE := hf k hk
    rw [List.getElem?_eq_getElem (by omega)] at hE
    refine shape_cells (by rw [List.length_take, List.length_drop]; omega) hE ?_
    have e4 := congrArg (·[k]?) e3
    simp only [List.getElem?_map] at e4
    rw [List.getElem?_eq_getElem (by omega), List.getElem?_eq_getElem (by rw [List.length_range]; omega)] at e4
    simpa using e4
  have hc : ∀ i, i < 22 → W.cell? ⟨0, i, none⟩ = cs[i]? := by
    intro i hi
    have := World.var?_cell gShapes hvar i
    rw [hcs]
    simpa using this
  have hat : ∀ k, k < 11 → W.cell? ⟨0, k * 2, none⟩ = some (.string (Bt.nameOf k)) ∧ W.cell? ⟨0, k * 2 + 1, none⟩ = some (.int .i64 (Bt.fld (k : Int) : Int)) := by
    intro k hk
    have hk2 := key k hk
    have a0 := congrArg (·[0]?) hk2
    have a1 := congrArg (·[1]?) hk2
    simp only [List.getElem?_take, List.getElem?_drop] at a0 a1
    rw [hc _ (by omega), hc _ (by omega)]
    exact ⟨by simpa using a0, by simpa using a1⟩
  exact ⟨lt_of_cell (hat 0 (by decide)).1, hat⟩

/-- A WORLD FOR THE WITNESS: the settled one, the listed variables holding what their initialisers lay. -/
noncomputable def laidWorld (os : Os) : World :=
  let w0 := World.holding Tryz.prog os ⟨#[.cells #[.string rangeS] 145, .cells #[.string syntaxS] 145], #[], []⟩
  let h1 := w0.heap.modify 7 (put (flat 4 Rows.laid_math_bits_deBruijn32tab))
  let h2 := h1.modify 8 (put (flat 4 Rows.laid_math_bits_deBruijn64tab))
  let h3 := h2.modify 4 (put (flat 4 Rows.laid_internal_strconv_uint64pow10))
  let h4 := h3.modify 6 (put (flat 4 Rows.laid_unicode_utf8_acceptRanges))
  let h5 := h4.modify 3 (put [.iface 143 (.pointer (some ⟨low, 0, none⟩))])
  let h6 := h5.modify 2 (put [.iface 143 (.pointer (some ⟨low + 1, 0, none⟩))])
  let h7 := h6.modify 5 (put (flat 4 Rows.laid_unicode_utf8_first))
  let h8 := h7.modify 0 (put (flat 4 Rows.laid_cattlecreep_batch_shapes))
  { w0 with heap := h8 }
abbrev laid8 : List (String × DataW Unit) := [("math/bits.deBruijn32tab", Rows.laid_math_bits_deBruijn32tab), ("math/bits.deBruijn64tab", Rows.laid_math_bits_deBruijn64tab), ("internal/strconv.uint64pow10", Rows.laid_internal_strconv_uint64pow10), ("unicode/utf8.acceptRanges", Rows.laid_unicode_utf8_acceptRanges), ("strconv.ErrRange", Rows.laid_strconv_ErrRange), ("strconv.ErrSyntax", Rows.laid_strconv_ErrSyntax), ("cattlecreep/batch.shapes", Rows.laid_cattlecreep_batch_shapes), ("unicode/utf8.first", Rows.laid_unicode_utf8_first)]
/-- WHAT THE ROWS' LISTS GIVE. -/
theorem tabs8 {W : World} (h : laidMetH Tryz.prog laid8 W) (hs : W.ShapedOpen Tryz.prog) : ATabs W := by
  rw [MakeChecks.laidMetH_plain _ _ _ (by kernel_rfl)] at h
  exact ⟨⟨pow_of_head h.tail.tail, ⟨err_of_head gSyntax gSyntaxType h.tail.tail.tail.tail.tail, err_of_head gRange gRangeType h.tail.tail.tail.tail⟩, max_of_shaped hs⟩, shapes_of_head h.tail.tail.tail.tail.tail.tail⟩
theorem laid8_met (os : Os) (args : Array Value) : laidMet Tryz.prog laid8 ((laidWorld os).forCall (fun _ _ => 0) ⟨#[], args, []⟩).memory :=
  laidMet_of_run3 300 (by kernel_rfl) (by kernel_rfl) (by kernel_rfl)
end Go.Proofs.YthlagpmacnijfaaGreatDoor
