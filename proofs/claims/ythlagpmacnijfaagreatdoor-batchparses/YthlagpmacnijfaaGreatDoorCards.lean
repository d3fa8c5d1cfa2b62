/-
  DERIVED. GIVEN WITH THE SEED: THE CARDS: each row of YthlagpmacnijfaaGreatDoorRows.lean that lists a variable, with what it lists TIED to the program's text (the seventh form; the later family's looks); each row that meets fmt, with fmt's text TOLD by the authors' own Lean function (tested against real Go, not proved from fmt's source: count such statements apart). THE CARD IS WHAT COUNTS. Prove the row's statement (the work); the ties are given (YthlagpmacnijfaaGreatDoorTie.lean); close each card by the builder's one call (the guide's Derived/Test/ToyasCard.lean, 'card_holds'). Laid BY PROGRAM, IN A SANDBOX (cutbox-door.mjs). By AI agents, Wed Nov 11 2026. No macro, syntax, notation, axiom, sorry.
-/
import Derived.Test.YthlagpmacnijfaaGreatDoorRows
import GoSem.ClaimSeven
namespace Go.Proofs.YthlagpmacnijfaaGreatDoor
namespace Rows

/-- THE TIED CARD OF 'cattlecreeplaw.BatchReads'. -/
def batchReadsCard : Claim7 := { stood := { row := batchReadsRow, standIns := [], harness := (true, "9c4acde9cdf258781ace6210ff0f2d13a1b811c09c36770979cf3df55137c327"), looks := true }, kinds := [], alts := [], laidByText := true, laidKinds := [.data, .data, .data, .data, .sentinel, .sentinel, .data, .pinned], laidTests := true, laidLooks := .later }
def BatchReadsCardSaid : Prop := Claim7.holds Tryz.pinned (.plain (OpenSpec.ofChange batchReadsSpec)) batchReadsCard

/-- THE TIED CARD OF 'cattlecreeplaw.BatchParses'. -/
def batchParsesCard : Claim7 := { stood := { row := batchParsesRow, standIns := [], harness := (true, "9c4acde9cdf258781ace6210ff0f2d13a1b811c09c36770979cf3df55137c327"), looks := true }, kinds := [], alts := [], laidByText := true, laidKinds := [.data, .data, .data, .data, .sentinel, .sentinel, .data, .pinned], laidTests := true, laidLooks := .later }
def BatchParsesCardSaid : Prop := Claim7.holds Tryz.pinned (.plain (OpenSpec.ofChange batchParsesSpec)) batchParsesCard

/-- THE TIED CARD OF 'cattlecreeplaw.BatchPrints'. -/
def batchPrintsCard : Claim7 := { stood := { row := batchPrintsRow, standIns := [], harness := (true, "9c4acde9cdf258781ace6210ff0f2d13a1b811c09c36770979cf3df55137c327"), looks := true }, kinds := [], alts := [], laidByText := true, laidKinds := [.data, .data, .data, .data, .sentinel, .sentinel, .data, .pinned], laidTests := true, laidLooks := .later }
def BatchPrintsCardSaid : Prop := Claim7.holds Tryz.pinned (.plain (OpenSpec.ofChange batchPrintsSpec)) batchPrintsCard

/-- THE SECOND FORM's CARD OF 'cattlecreeplaw.BatchReads'. -/
def batchReadsUptoCard : Claim7 := { stood := { row := batchReadsUptoRow, standIns := [], harness := (true, "9c4acde9cdf258781ace6210ff0f2d13a1b811c09c36770979cf3df55137c327"), looks := true }, kinds := [], alts := [], laidByText := true, laidKinds := [.data, .data, .data, .data, .sentinel, .sentinel, .data, .pinned], laidTests := true, laidLooks := .later }
def BatchReadsUptoCardSaid : Prop := Claim7.holds Tryz.pinned (.plain (OpenSpec.upto batchReadsSpec)) batchReadsUptoCard

/-- THE SECOND FORM's CARD OF 'cattlecreeplaw.BatchParses'. -/
def batchParsesUptoCard : Claim7 := { stood := { row := batchParsesUptoRow, standIns := [], harness := (true, "9c4acde9cdf258781ace6210ff0f2d13a1b811c09c36770979cf3df55137c327"), looks := true }, kinds := [], alts := [], laidByText := true, laidKinds := [.data, .data, .data, .data, .sentinel, .sentinel, .data, .pinned], laidTests := true, laidLooks := .later }
def BatchParsesUptoCardSaid : Prop := Claim7.holds Tryz.pinned (.plain (OpenSpec.upto batchParsesSpec)) batchParsesUptoCard

/-- THE SECOND FORM's CARD OF 'cattlecreeplaw.BatchPrints'. -/
def batchPrintsUptoCard : Claim7 := { stood := { row := batchPrintsUptoRow, standIns := [], harness := (true, "9c4acde9cdf258781ace6210ff0f2d13a1b811c09c36770979cf3df55137c327"), looks := true }, kinds := [], alts := [], laidByText := true, laidKinds := [.data, .data, .data, .data, .sentinel, .sentinel, .data, .pinned], laidTests := true, laidLooks := .later }
def BatchPrintsUptoCardSaid : Prop := Claim7.holds Tryz.pinned (.plain (OpenSpec.upto batchPrintsSpec)) batchPrintsUptoCard
end Rows
end Go.Proofs.YthlagpmacnijfaaGreatDoor
