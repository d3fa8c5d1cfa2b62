/- What the listed tables give: the two tables of package sha hold the words that the document describes; and a world for the witness. -/
import Derived.Test.YthknkfiofdfogaaDoorFrame
import Derived.Test.YthknkfiofdfogaaDoorCards
import Derived.Test.YthknkfiofdfogaaDoorTie
import Derived.Test.YthknkfiofdfogaaDoorShaNext
import Derived.Deep.DeepHandedRow
import Derived.Lib.LaidTab
import Derived.MakeChecks
import Derived.Stop.LaidErr
namespace Go.Proofs.YthknkfiofdfogaaDoor
open Go.ChangeShapes Go.WideShapes Go.ChangeAt Go.RowKit

theorem gFirst : Tryd.prog.globalNamed "cattlecreep/sha.firstWords" = some 0 := by kernel_rfl
theorem gRound : Tryd.prog.globalNamed "cattlecreep/sha.roundWords" = some 1 := by kernel_rfl
theorem gFirstType : (Tryd.prog.globals[0]?).map (·.type) = some 80 := by kernel_rfl
theorem gRoundType : (Tryd.prog.globals[1]?).map (·.type) = some 87 := by kernel_rfl
theorem cellsFirst : Tryd.prog.cellsOf 80 = 8 := by kernel_rfl
theorem cellsRound : Tryd.prog.cellsOf 87 = 64 := by kernel_rfl
theorem cellsWord : Tryd.prog.cellsOf 69 = 1 := by kernel_rfl
def I (l : List (BitVec 32)) : List Int := l.map fun x => (x.toNat : Int)
theorem tab_cells {W : World} {name : String} {g n : Nat} {l : List (BitVec 32)} (h : Lib.TabIs Tryd.prog W name .u32 (I l)) (hg : Tryd.prog.globalNamed name = some g) (hl : l.length = n) :
    ∀ i, i < n → W.cell? ⟨g, i, none⟩ = some (U (l.getD i 0)) := by
  intro i hi
  rw [h.cell hg i (by simp [I, hl]; exact hi), U_def]
  unfold I
  rw [List.getD_eq_getElem?_getD, List.getElem?_map, List.getElem?_eq_getElem (by omega), List.getD_eq_getElem?_getD, List.getElem?_eq_getElem (by omega)]
  rfl
abbrev laidTabs : List (String × DataW Unit) := [("cattlecreep/sha.firstWords", Rows.laid_cattlecreep_sha_firstWords), ("cattlecreep/sha.roundWords", Rows.laid_cattlecreep_sha_roundWords)]
/-- WHAT THE ROW's LIST GIVES. -/
theorem tabs_of_laid {W : World} (h : laidMetH Tryd.prog laidTabs W) : Tabs W := by
  rw [MakeChecks.laidMetH_plain _ _ _ (by kernel_rfl)] at h
  have h1 : Lib.TabIs Tryd.prog W "cattlecreep/sha.firstWords" .u32 (I Sh.H0) := Lib.tabIs_of_head (k := .u32) (zs := I Sh.H0) gFirst gFirstType Tryd.underlying80 Tryd.underlying69 cellsWord cellsFirst h
  have h2 : Lib.TabIs Tryd.prog W "cattlecreep/sha.roundWords" .u32 (I Sh.K0) := Lib.tabIs_of_head (k := .u32) (zs := I Sh.K0) gRound gRoundType Tryd.underlying87 Tryd.underlying69 cellsWord cellsRound h.tail
  have c1 := tab_cells h1 gFirst (n := 8) rfl
  have c2 := tab_cells h2 gRound (n := 64) rfl
  exact ⟨lt_of_cell (c1 0 (by decide)), lt_of_cell (c2 0 (by decide)), c1, c2⟩

/-- A block's cells anew. -/
def lay (zs : List Int) : Obj → Obj
  | .cells _ t frozen => .cells (zs.map (Value.int .u32)).toArray t frozen
  | o => o
/-- A WORLD FOR THE WITNESS: the settled one, the tables holding what their initialisers lay. -/
noncomputable def laidWorld (os : Os) : World :=
  { World.holding Tryd.prog os ⟨#[], #[], []⟩ with heap := ((World.holding Tryd.prog os ⟨#[], #[], []⟩).heap.modify 0 (lay (I Sh.H0))).modify 1 (lay (I Sh.K0)) }
end Go.Proofs.YthknkfiofdfogaaDoor
