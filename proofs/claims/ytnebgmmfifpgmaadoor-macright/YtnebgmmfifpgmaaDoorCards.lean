/-
  DERIVED. GIVEN WITH THE SEED: THE CARDS: each row of YtnebgmmfifpgmaaDoorRows.lean that lists a variable, with what it lists TIED to the program's text (the seventh form; the later family's looks); each row that meets fmt, with fmt's text TOLD by the authors' own Lean function (tested against real Go, not proved from fmt's source: count such statements apart). THE CARD IS WHAT COUNTS. Prove the row's statement (the work); the ties are given (YtnebgmmfifpgmaaDoorTie.lean); close each card by the builder's one call (the guide's Derived/Test/ToyasCard.lean, 'card_holds'). Laid BY PROGRAM, IN A SANDBOX (cutbox-door.mjs). By AI agents, Wed Nov 11 2026. No macro, syntax, notation, axiom, sorry.
-/
import Derived.Test.YtnebgmmfifpgmaaDoorRows
import GoSem.ClaimSeven
namespace Go.Proofs.YtnebgmmfifpgmaaDoor
namespace Rows

/-- THE TIED CARD OF 'cattlecreeplaw.MacTags'. -/
def macTagsCard : Claim7 := { stood := { row := macTagsRow, standIns := [], harness := (true, "6688cdbe9eb9288b3543addd7c0a6027a2b0d90fa5128c0160b1b4c908a816e7"), looks := false }, kinds := [], alts := [], laidByText := true, laidKinds := [.data, .data], laidTests := true, laidLooks := .later }
def MacTagsCardSaid : Prop := Claim7.holds Tryd.pinned (.plain (OpenSpec.ofChange macTagsSpec)) macTagsCard

/-- THE TIED CARD OF 'cattlecreeplaw.MacMakes'. -/
def macMakesCard : Claim7 := { stood := { row := macMakesRow, standIns := [], harness := (true, "6688cdbe9eb9288b3543addd7c0a6027a2b0d90fa5128c0160b1b4c908a816e7"), looks := false }, kinds := [], alts := [], laidByText := true, laidKinds := [.data, .data], laidTests := true, laidLooks := .later }
def MacMakesCardSaid : Prop := Claim7.holds Tryd.pinned (.plain (OpenSpec.ofChange macMakesSpec)) macMakesCard

/-- THE TIED CARD OF 'cattlecreepkeep.MacRight'. -/
def macRightCard : Claim7 := { stood := { row := macRightRow, standIns := [], harness := (true, "6688cdbe9eb9288b3543addd7c0a6027a2b0d90fa5128c0160b1b4c908a816e7"), looks := false }, kinds := [], alts := [], laidByText := true, laidKinds := [.data, .data], laidTests := true, laidLooks := .later }
def MacRightCardSaid : Prop := Claim7.holds Tryd.pinned (.plain (OpenSpec.ofChange macRightSpec)) macRightCard

/-- THE TIED CARD OF 'cattlecreepkeep.MacKeys'. -/
def macKeysCard : Claim7 := { stood := { row := macKeysRow, standIns := [], harness := (true, "6688cdbe9eb9288b3543addd7c0a6027a2b0d90fa5128c0160b1b4c908a816e7"), looks := false }, kinds := [], alts := [], laidByText := true, laidKinds := [.data, .data], laidTests := true, laidLooks := .later }
def MacKeysCardSaid : Prop := Claim7.holds Tryd.pinned (.plain (OpenSpec.ofChange macKeysSpec)) macKeysCard

/-- THE SECOND FORM's CARD OF 'cattlecreeplaw.MacTags'. -/
def macTagsUptoCard : Claim7 := { stood := { row := macTagsUptoRow, standIns := [], harness := (true, "6688cdbe9eb9288b3543addd7c0a6027a2b0d90fa5128c0160b1b4c908a816e7"), looks := false }, kinds := [], alts := [], laidByText := true, laidKinds := [.data, .data], laidTests := true, laidLooks := .later }
def MacTagsUptoCardSaid : Prop := Claim7.holds Tryd.pinned (.plain (OpenSpec.upto macTagsSpec)) macTagsUptoCard

/-- THE SECOND FORM's CARD OF 'cattlecreeplaw.MacMakes'. -/
def macMakesUptoCard : Claim7 := { stood := { row := macMakesUptoRow, standIns := [], harness := (true, "6688cdbe9eb9288b3543addd7c0a6027a2b0d90fa5128c0160b1b4c908a816e7"), looks := false }, kinds := [], alts := [], laidByText := true, laidKinds := [.data, .data], laidTests := true, laidLooks := .later }
def MacMakesUptoCardSaid : Prop := Claim7.holds Tryd.pinned (.plain (OpenSpec.upto macMakesSpec)) macMakesUptoCard

/-- THE SECOND FORM's CARD OF 'cattlecreepkeep.MacRight'. -/
def macRightUptoCard : Claim7 := { stood := { row := macRightUptoRow, standIns := [], harness := (true, "6688cdbe9eb9288b3543addd7c0a6027a2b0d90fa5128c0160b1b4c908a816e7"), looks := false }, kinds := [], alts := [], laidByText := true, laidKinds := [.data, .data], laidTests := true, laidLooks := .later }
def MacRightUptoCardSaid : Prop := Claim7.holds Tryd.pinned (.plain (OpenSpec.upto macRightSpec)) macRightUptoCard

/-- THE SECOND FORM's CARD OF 'cattlecreepkeep.MacKeys'. -/
def macKeysUptoCard : Claim7 := { stood := { row := macKeysUptoRow, standIns := [], harness := (true, "6688cdbe9eb9288b3543addd7c0a6027a2b0d90fa5128c0160b1b4c908a816e7"), looks := false }, kinds := [], alts := [], laidByText := true, laidKinds := [.data, .data], laidTests := true, laidLooks := .later }
def MacKeysUptoCardSaid : Prop := Claim7.holds Tryd.pinned (.plain (OpenSpec.upto macKeysSpec)) macKeysUptoCard
end Rows
end Go.Proofs.YtnebgmmfifpgmaaDoor
