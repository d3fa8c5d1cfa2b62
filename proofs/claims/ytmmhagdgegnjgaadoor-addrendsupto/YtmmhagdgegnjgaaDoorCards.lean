/-
  DERIVED. GIVEN WITH THE SEED: THE CARDS: each row of YtmmhagdgegnjgaaDoorRows.lean that lists a variable, with what it lists TIED to the program's text (the seventh form; the later family's looks); each row that meets fmt, with fmt's text TOLD by the authors' own Lean function (tested against real Go, not proved from fmt's source: count such statements apart). THE CARD IS WHAT COUNTS. Prove the row's statement (the work); the ties are given (YtmmhagdgegnjgaaDoorTie.lean); close each card by the builder's one call (the guide's Derived/Test/ToyasCard.lean, 'card_holds'). Laid BY PROGRAM, IN A SANDBOX (cutbox-door.mjs). By AI agents, Wed Nov 11 2026. No macro, syntax, notation, axiom, sorry.
-/
import Derived.Test.YtmmhagdgegnjgaaDoorRows
import GoSem.ClaimSeven
namespace Go.Proofs.YtmmhagdgegnjgaaDoor
namespace Rows

/-- THE TIED CARD OF 'cattlecreeplaw.AddrTells'. -/
def addrTellsCard : Claim7 := { stood := { row := addrTellsRow, standIns := [], harness := (true, "d55aeb29e6ce02fd354a5e2a4cb50d1963398bf3454d44e5050bfddeb2ce87c4"), looks := true }, kinds := [], alts := [], laidByText := true, laidKinds := [.data, .data, .data, .data, .sentinel, .sentinel, .pinned], laidTests := true, laidLooks := .later }
def AddrTellsCardSaid : Prop := Claim7.holds Tryd.pinned (.plain (OpenSpec.ofChange addrTellsSpec)) addrTellsCard

/-- THE TIED CARD OF 'cattlecreeplaw.AddrEnds'. -/
def addrEndsCard : Claim7 := { stood := { row := addrEndsRow, standIns := [], harness := (true, "d55aeb29e6ce02fd354a5e2a4cb50d1963398bf3454d44e5050bfddeb2ce87c4"), looks := true }, kinds := [], alts := [], laidByText := true, laidKinds := [.data, .data, .data, .data, .sentinel, .sentinel, .pinned], laidTests := true, laidLooks := .later }
def AddrEndsCardSaid : Prop := Claim7.holds Tryd.pinned (.plain (OpenSpec.ofChange addrEndsSpec)) addrEndsCard

/-- THE TIED CARD OF 'cattlecreepkeep.AddrBack'. -/
def addrBackCard : Claim7 := { stood := { row := addrBackRow, standIns := [], harness := (true, "d55aeb29e6ce02fd354a5e2a4cb50d1963398bf3454d44e5050bfddeb2ce87c4"), looks := true }, kinds := [], alts := [], laidByText := true, laidKinds := [.data, .data, .data, .data, .pinned], laidTests := true, laidLooks := .later }
def AddrBackCardSaid : Prop := Claim7.holds Tryd.pinned (.plain (OpenSpec.ofChange addrBackSpec)) addrBackCard

/-- THE TIED CARD OF 'cattlecreepkeep.AddrTurns'. -/
def addrTurnsCard : Claim7 := { stood := { row := addrTurnsRow, standIns := [], harness := (true, "d55aeb29e6ce02fd354a5e2a4cb50d1963398bf3454d44e5050bfddeb2ce87c4"), looks := true }, kinds := [], alts := [], laidByText := true, laidKinds := [.data, .data, .data, .data, .pinned], laidTests := true, laidLooks := .later }
def AddrTurnsCardSaid : Prop := Claim7.holds Tryd.pinned (.plain (OpenSpec.ofChange addrTurnsSpec)) addrTurnsCard

/-- THE SECOND FORM's CARD OF 'cattlecreeplaw.AddrTells'. -/
def addrTellsUptoCard : Claim7 := { stood := { row := addrTellsUptoRow, standIns := [], harness := (true, "d55aeb29e6ce02fd354a5e2a4cb50d1963398bf3454d44e5050bfddeb2ce87c4"), looks := true }, kinds := [], alts := [], laidByText := true, laidKinds := [.data, .data, .data, .data, .sentinel, .sentinel, .pinned], laidTests := true, laidLooks := .later }
def AddrTellsUptoCardSaid : Prop := Claim7.holds Tryd.pinned (.plain (OpenSpec.upto addrTellsSpec)) addrTellsUptoCard

/-- THE SECOND FORM's CARD OF 'cattlecreeplaw.AddrEnds'. -/
def addrEndsUptoCard : Claim7 := { stood := { row := addrEndsUptoRow, standIns := [], harness := (true, "d55aeb29e6ce02fd354a5e2a4cb50d1963398bf3454d44e5050bfddeb2ce87c4"), looks := true }, kinds := [], alts := [], laidByText := true, laidKinds := [.data, .data, .data, .data, .sentinel, .sentinel, .pinned], laidTests := true, laidLooks := .later }
def AddrEndsUptoCardSaid : Prop := Claim7.holds Tryd.pinned (.plain (OpenSpec.upto addrEndsSpec)) addrEndsUptoCard

/-- THE SECOND FORM's CARD OF 'cattlecreepkeep.AddrBack'. -/
def addrBackUptoCard : Claim7 := { stood := { row := addrBackUptoRow, standIns := [], harness := (true, "d55aeb29e6ce02fd354a5e2a4cb50d1963398bf3454d44e5050bfddeb2ce87c4"), looks := true }, kinds := [], alts := [], laidByText := true, laidKinds := [.data, .data, .data, .data, .pinned], laidTests := true, laidLooks := .later }
def AddrBackUptoCardSaid : Prop := Claim7.holds Tryd.pinned (.plain (OpenSpec.upto addrBackSpec)) addrBackUptoCard

/-- THE SECOND FORM's CARD OF 'cattlecreepkeep.AddrTurns'. -/
def addrTurnsUptoCard : Claim7 := { stood := { row := addrTurnsUptoRow, standIns := [], harness := (true, "d55aeb29e6ce02fd354a5e2a4cb50d1963398bf3454d44e5050bfddeb2ce87c4"), looks := true }, kinds := [], alts := [], laidByText := true, laidKinds := [.data, .data, .data, .data, .pinned], laidTests := true, laidLooks := .later }
def AddrTurnsUptoCardSaid : Prop := Claim7.holds Tryd.pinned (.plain (OpenSpec.upto addrTurnsSpec)) addrTurnsUptoCard
end Rows
end Go.Proofs.YtmmhagdgegnjgaaDoor
