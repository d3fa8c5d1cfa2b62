/- What the listed variables of Go's library give where a law reads texts alone (two tables of unicode/utf8 and bytealg's limit), and a world for the witness. -/
import Derived.Test.YtldfamdjdkaloabDoorFrameG
import Derived.Test.YtldfamdjdkaloabDoorCards
import Derived.Test.YtldfamdjdkaloabDoorTie
import Derived.Test.YtldfamdjdkaloabDoorLibText
import Derived.Deep.DeepHandedRow
import Derived.Deep.DeepLaidRun
import Derived.Lib.LaidTab
import Derived.MakeChecks
import Derived.Stop.LaidErr
namespace Go.Proofs.YtldfamdjdkaloabDoor
open Go.ChangeShapes Go.WideShapes Go.ChangeAt Go.RowKit

theorem max_of_shaped {W : World} (h : W.ShapedOpen Tryd.prog) : MaxTab W := Tryd.laysM145.s1_3 W h
abbrev laid2 : List (String × DataW Unit) := [("unicode/utf8.acceptRanges", Rows.laid_unicode_utf8_acceptRanges), ("unicode/utf8.first", Rows.laid_unicode_utf8_first)]
theorem tabs2 {W : World} (_ : laidMetH Tryd.prog laid2 W) (hs : W.ShapedOpen Tryd.prog) : MaxTab W := max_of_shaped hs
/-- The cells of a datum. -/
def flat : Nat → DataW Unit → List Value
  | n + 1, .agg ps => ps.flatMap (flat n)
  | _, .lit (.int k z) => [.int k z]
  | _, _ => []
/-- A block's cells anew. -/
def put (vs : List Value) : Obj → Obj
  | .cells _ t frozen => .cells vs.toArray t frozen
  | o => o
/-- A WORLD FOR THE WITNESS: the settled one, the listed variables holding what their initialisers lay. -/
noncomputable def laidWorld (os : Os) : World :=
  let w0 := World.holding Tryd.prog os ⟨#[], #[], []⟩
  let h1 := w0.heap.modify 2 (put (flat 4 Rows.laid_unicode_utf8_acceptRanges))
  let h2 := h1.modify 1 (put (flat 4 Rows.laid_unicode_utf8_first))
  { w0 with heap := h2 }
theorem laid2_met (os : Os) (args : Array Value) : laidMet Tryd.prog laid2 ((laidWorld os).forCall (fun _ _ => 0) ⟨#[], args, []⟩).memory :=
  laidMet_of_run3 300 (by kernel_rfl) (by kernel_rfl) (by kernel_rfl)
end Go.Proofs.YtldfamdjdkaloabDoor
