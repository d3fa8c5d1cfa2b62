/-
  DERIVED. GIVEN WITH THE SEED: THE CARDS: each row of YthknkfiofdfogaaDoorRows.lean that lists a variable, with what it lists TIED to the program's text (the seventh form; the later family's looks); each row that meets fmt, with fmt's text TOLD by the authors' own Lean function (tested against real Go, not proved from fmt's source: count such statements apart). THE CARD IS WHAT COUNTS. Prove the row's statement (the work); the ties are given (YthknkfiofdfogaaDoorTie.lean); close each card by the builder's one call (the guide's Derived/Test/ToyasCard.lean, 'card_holds'). Laid BY PROGRAM, IN A SANDBOX (cutbox-door.mjs). By AI agents, Wed Nov 11 2026. No macro, syntax, notation, axiom, sorry.
-/
import Derived.Test.YthknkfiofdfogaaDoorRows
import GoSem.ClaimSeven
namespace Go.Proofs.YthknkfiofdfogaaDoor
namespace Rows

/-- THE TIED CARD OF 'cattlecreeplaw.SealStreams'. -/
def sealStreamsCard : Claim7 := { stood := { row := sealStreamsRow, standIns := [], harness := (true, "6e6eb0439c792dfbabae47619e6078b54c06536bd00ab5fbd25c4b4124f4b518"), looks := false }, kinds := [], alts := [], laidByText := true, laidKinds := [.data, .data], laidTests := true, laidLooks := .later }
def SealStreamsCardSaid : Prop := Claim7.holds Tryd.pinned (.plain (OpenSpec.ofChange sealStreamsSpec)) sealStreamsCard

/-- THE TIED CARD OF 'cattlecreeplaw.SealSeals'. -/
def sealSealsCard : Claim7 := { stood := { row := sealSealsRow, standIns := [], harness := (true, "6e6eb0439c792dfbabae47619e6078b54c06536bd00ab5fbd25c4b4124f4b518"), looks := false }, kinds := [], alts := [], laidByText := true, laidKinds := [.data, .data], laidTests := true, laidLooks := .later }
def SealSealsCardSaid : Prop := Claim7.holds Tryd.pinned (.plain (OpenSpec.ofChange sealSealsSpec)) sealSealsCard

/-- THE TIED CARD OF 'cattlecreeplaw.SealOpens'. -/
def sealOpensCard : Claim7 := { stood := { row := sealOpensRow, standIns := [], harness := (true, "6e6eb0439c792dfbabae47619e6078b54c06536bd00ab5fbd25c4b4124f4b518"), looks := false }, kinds := [], alts := [], laidByText := true, laidKinds := [.data, .data], laidTests := true, laidLooks := .later }
def SealOpensCardSaid : Prop := Claim7.holds Tryd.pinned (.plain (OpenSpec.ofChange sealOpensSpec)) sealOpensCard

/-- THE TIED CARD OF 'cattlecreepkeep.SealBack'. -/
def sealBackCard : Claim7 := { stood := { row := sealBackRow, standIns := [], harness := (true, "6e6eb0439c792dfbabae47619e6078b54c06536bd00ab5fbd25c4b4124f4b518"), looks := false }, kinds := [], alts := [], laidByText := true, laidKinds := [.data, .data], laidTests := true, laidLooks := .later }
def SealBackCardSaid : Prop := Claim7.holds Tryd.pinned (.plain (OpenSpec.ofChange sealBackSpec)) sealBackCard

/-- THE TIED CARD OF 'cattlecreepkeep.SealStrict'. -/
def sealStrictCard : Claim7 := { stood := { row := sealStrictRow, standIns := [], harness := (true, "6e6eb0439c792dfbabae47619e6078b54c06536bd00ab5fbd25c4b4124f4b518"), looks := false }, kinds := [], alts := [], laidByText := true, laidKinds := [.data, .data], laidTests := true, laidLooks := .later }
def SealStrictCardSaid : Prop := Claim7.holds Tryd.pinned (.plain (OpenSpec.ofChange sealStrictSpec)) sealStrictCard

/-- THE TIED CARD OF 'cattlecreepkeep.SealFlows'. -/
def sealFlowsCard : Claim7 := { stood := { row := sealFlowsRow, standIns := [], harness := (true, "6e6eb0439c792dfbabae47619e6078b54c06536bd00ab5fbd25c4b4124f4b518"), looks := false }, kinds := [], alts := [], laidByText := true, laidKinds := [.data, .data], laidTests := true, laidLooks := .later }
def SealFlowsCardSaid : Prop := Claim7.holds Tryd.pinned (.plain (OpenSpec.ofChange sealFlowsSpec)) sealFlowsCard

/-- THE SECOND FORM's CARD OF 'cattlecreeplaw.SealStreams'. -/
def sealStreamsUptoCard : Claim7 := { stood := { row := sealStreamsUptoRow, standIns := [], harness := (true, "6e6eb0439c792dfbabae47619e6078b54c06536bd00ab5fbd25c4b4124f4b518"), looks := false }, kinds := [], alts := [], laidByText := true, laidKinds := [.data, .data], laidTests := true, laidLooks := .later }
def SealStreamsUptoCardSaid : Prop := Claim7.holds Tryd.pinned (.plain (OpenSpec.upto sealStreamsSpec)) sealStreamsUptoCard

/-- THE SECOND FORM's CARD OF 'cattlecreeplaw.SealSeals'. -/
def sealSealsUptoCard : Claim7 := { stood := { row := sealSealsUptoRow, standIns := [], harness := (true, "6e6eb0439c792dfbabae47619e6078b54c06536bd00ab5fbd25c4b4124f4b518"), looks := false }, kinds := [], alts := [], laidByText := true, laidKinds := [.data, .data], laidTests := true, laidLooks := .later }
def SealSealsUptoCardSaid : Prop := Claim7.holds Tryd.pinned (.plain (OpenSpec.upto sealSealsSpec)) sealSealsUptoCard

/-- THE SECOND FORM's CARD OF 'cattlecreeplaw.SealOpens'. -/
def sealOpensUptoCard : Claim7 := { stood := { row := sealOpensUptoRow, standIns := [], harness := (true, "6e6eb0439c792dfbabae47619e6078b54c06536bd00ab5fbd25c4b4124f4b518"), looks := false }, kinds := [], alts := [], laidByText := true, laidKinds := [.data, .data], laidTests := true, laidLooks := .later }
def SealOpensUptoCardSaid : Prop := Claim7.holds Tryd.pinned (.plain (OpenSpec.upto sealOpensSpec)) sealOpensUptoCard

/-- THE SECOND FORM's CARD OF 'cattlecreepkeep.SealBack'. -/
def sealBackUptoCard : Claim7 := { stood := { row := sealBackUptoRow, standIns := [], harness := (true, "6e6eb0439c792dfbabae47619e6078b54c06536bd00ab5fbd25c4b4124f4b518"), looks := false }, kinds := [], alts := [], laidByText := true, laidKinds := [.data, .data], laidTests := true, laidLooks := .later }
def SealBackUptoCardSaid : Prop := Claim7.holds Tryd.pinned (.plain (OpenSpec.upto sealBackSpec)) sealBackUptoCard

/-- THE SECOND FORM's CARD OF 'cattlecreepkeep.SealStrict'. -/
def sealStrictUptoCard : Claim7 := { stood := { row := sealStrictUptoRow, standIns := [], harness := (true, "6e6eb0439c792dfbabae47619e6078b54c06536bd00ab5fbd25c4b4124f4b518"), looks := false }, kinds := [], alts := [], laidByText := true, laidKinds := [.data, .data], laidTests := true, laidLooks := .later }
def SealStrictUptoCardSaid : Prop := Claim7.holds Tryd.pinned (.plain (OpenSpec.upto sealStrictSpec)) sealStrictUptoCard

/-- THE SECOND FORM's CARD OF 'cattlecreepkeep.SealFlows'. -/
def sealFlowsUptoCard : Claim7 := { stood := { row := sealFlowsUptoRow, standIns := [], harness := (true, "6e6eb0439c792dfbabae47619e6078b54c06536bd00ab5fbd25c4b4124f4b518"), looks := false }, kinds := [], alts := [], laidByText := true, laidKinds := [.data, .data], laidTests := true, laidLooks := .later }
def SealFlowsUptoCardSaid : Prop := Claim7.holds Tryd.pinned (.plain (OpenSpec.upto sealFlowsSpec)) sealFlowsUptoCard
end Rows
end Go.Proofs.YthknkfiofdfogaaDoor
