/-
  DERIVED. GIVEN WITH THE SEED: THE CARDS: each row of YtjdflnnpamjjcaaGreatDoorRows.lean that lists a variable, with what it lists TIED to the program's text (the seventh form; the later family's looks); each row that meets fmt, with fmt's text TOLD by the authors' own Lean function (tested against real Go, not proved from fmt's source: count such statements apart). THE CARD IS WHAT COUNTS. Prove the row's statement (the work); the ties are given (YtjdflnnpamjjcaaGreatDoorTie.lean); close each card by the builder's one call (the guide's Derived/Test/ToyasCard.lean, 'card_holds'). Laid BY PROGRAM, IN A SANDBOX (cutbox-door.mjs). By AI agents, Wed Nov 11 2026. No macro, syntax, notation, axiom, sorry.
-/
import Derived.Test.YtjdflnnpamjjcaaGreatDoorRows
import GoSem.ClaimSeven
namespace Go.Proofs.YtjdflnnpamjjcaaGreatDoor
namespace Rows

/-- THE TIED CARD OF 'cattlecreeplaw.ConfChecks'. -/
def confChecksCard : Claim7 := { stood := { row := confChecksRow, standIns := [], harness := (true, "3f2cdef85d7a279a6a4076a4d2e4b576461cc15adffc5d4dfba7315deec04595"), looks := true }, kinds := [], alts := [], laidByText := true, laidKinds := [.data, .data, .data, .data, .sentinel, .sentinel, .pinned], laidTests := true, laidLooks := .later }
def ConfChecksCardSaid : Prop := Claim7.holds Tryz.pinned (.plain (OpenSpec.ofChange confChecksSpec)) confChecksCard

/-- THE TIED CARD OF 'cattlecreeplaw.ConfTrees'. -/
def confTreesCard : Claim7 := { stood := { row := confTreesRow, standIns := [], harness := (true, "3f2cdef85d7a279a6a4076a4d2e4b576461cc15adffc5d4dfba7315deec04595"), looks := true }, kinds := [], alts := [], laidByText := true, laidKinds := [.data, .data, .data, .data, .sentinel, .sentinel, .pinned], laidTests := true, laidLooks := .later }
def ConfTreesCardSaid : Prop := Claim7.holds Tryz.pinned (.plain (OpenSpec.ofChange confTreesSpec)) confTreesCard

/-- THE SECOND FORM's CARD OF 'cattlecreeplaw.ConfChecks'. -/
def confChecksUptoCard : Claim7 := { stood := { row := confChecksUptoRow, standIns := [], harness := (true, "3f2cdef85d7a279a6a4076a4d2e4b576461cc15adffc5d4dfba7315deec04595"), looks := true }, kinds := [], alts := [], laidByText := true, laidKinds := [.data, .data, .data, .data, .sentinel, .sentinel, .pinned], laidTests := true, laidLooks := .later }
def ConfChecksUptoCardSaid : Prop := Claim7.holds Tryz.pinned (.plain (OpenSpec.upto confChecksSpec)) confChecksUptoCard

/-- THE SECOND FORM's CARD OF 'cattlecreeplaw.ConfTrees'. -/
def confTreesUptoCard : Claim7 := { stood := { row := confTreesUptoRow, standIns := [], harness := (true, "3f2cdef85d7a279a6a4076a4d2e4b576461cc15adffc5d4dfba7315deec04595"), looks := true }, kinds := [], alts := [], laidByText := true, laidKinds := [.data, .data, .data, .data, .sentinel, .sentinel, .pinned], laidTests := true, laidLooks := .later }
def ConfTreesUptoCardSaid : Prop := Claim7.holds Tryz.pinned (.plain (OpenSpec.upto confTreesSpec)) confTreesUptoCard
end Rows
end Go.Proofs.YtjdflnnpamjjcaaGreatDoor
