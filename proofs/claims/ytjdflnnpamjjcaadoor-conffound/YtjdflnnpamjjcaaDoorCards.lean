/-
  DERIVED. GIVEN WITH THE SEED: THE CARDS: each row of YtjdflnnpamjjcaaDoorRows.lean that lists a variable, with what it lists TIED to the program's text (the seventh form; the later family's looks); each row that meets fmt, with fmt's text TOLD by the authors' own Lean function (tested against real Go, not proved from fmt's source: count such statements apart). THE CARD IS WHAT COUNTS. Prove the row's statement (the work); the ties are given (YtjdflnnpamjjcaaDoorTie.lean); close each card by the builder's one call (the guide's Derived/Test/ToyasCard.lean, 'card_holds'). Laid BY PROGRAM, IN A SANDBOX (cutbox-door.mjs). By AI agents, Wed Nov 11 2026. No macro, syntax, notation, axiom, sorry.
-/
import Derived.Test.YtjdflnnpamjjcaaDoorRows
import GoSem.ClaimSeven
namespace Go.Proofs.YtjdflnnpamjjcaaDoor
namespace Rows

/-- THE TIED CARD OF 'cattlecreeplaw.ConfRights'. -/
def confRightsCard : Claim7 := { stood := { row := confRightsRow, standIns := [], harness := (true, "87f2ee4a0630fa56cd9902a0a398e797e9f6dc49a0d24febf45028596c51ebce"), looks := true }, kinds := [], alts := [], laidByText := true, laidKinds := [.data, .data, .data, .data, .sentinel, .sentinel, .pinned], laidTests := true, laidLooks := .later }
def ConfRightsCardSaid : Prop := Claim7.holds Tryd.pinned (.plain (OpenSpec.ofChange confRightsSpec)) confRightsCard

/-- THE TIED CARD OF 'cattlecreepkeep.ConfFound'. -/
def confFoundCard : Claim7 := { stood := { row := confFoundRow, standIns := [], harness := (true, "87f2ee4a0630fa56cd9902a0a398e797e9f6dc49a0d24febf45028596c51ebce"), looks := true }, kinds := [], alts := [], laidByText := true, laidKinds := [.data, .pinned], laidTests := true, laidLooks := .later }
def ConfFoundCardSaid : Prop := Claim7.holds Tryd.pinned (.plain (OpenSpec.ofChange confFoundSpec)) confFoundCard

/-- THE SECOND FORM's CARD OF 'cattlecreeplaw.ConfRights'. -/
def confRightsUptoCard : Claim7 := { stood := { row := confRightsUptoRow, standIns := [], harness := (true, "87f2ee4a0630fa56cd9902a0a398e797e9f6dc49a0d24febf45028596c51ebce"), looks := true }, kinds := [], alts := [], laidByText := true, laidKinds := [.data, .data, .data, .data, .sentinel, .sentinel, .pinned], laidTests := true, laidLooks := .later }
def ConfRightsUptoCardSaid : Prop := Claim7.holds Tryd.pinned (.plain (OpenSpec.upto confRightsSpec)) confRightsUptoCard

/-- THE SECOND FORM's CARD OF 'cattlecreepkeep.ConfFound'. -/
def confFoundUptoCard : Claim7 := { stood := { row := confFoundUptoRow, standIns := [], harness := (true, "87f2ee4a0630fa56cd9902a0a398e797e9f6dc49a0d24febf45028596c51ebce"), looks := true }, kinds := [], alts := [], laidByText := true, laidKinds := [.data, .pinned], laidTests := true, laidLooks := .later }
def ConfFoundUptoCardSaid : Prop := Claim7.holds Tryd.pinned (.plain (OpenSpec.upto confFoundSpec)) confFoundUptoCard
end Rows
end Go.Proofs.YtjdflnnpamjjcaaDoor
