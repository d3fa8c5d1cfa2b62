/-
  No cell of these rows narrows 'for every input' (looked for: loops, veiled, ifaces, maps, wideKeys, modest, calm, conditions, laid).
  DERIVED. THE GIVEN ROWS OF THIS SEAT. 4 by the template 'for every input the law returns true; each argument reads behind the call as it read before'; 0 by the template 'total and deterministic' (their statements: YtcfkhkaheifbmaaTotals.lean).
  GIVEN WITH THE SEED: the statements are not yours to turn. If you find one false, say at which input.
  Laid BY PROGRAM, IN A SANDBOX (cutbox-rows.mjs): the forced cells as the released guide's own fill.sh prints them over the translation 1327ff8b83f1c077… (all of the seat's roots in one cut). By AI agents, Wed Nov 11 2026. No macro, syntax, notation, axiom, sorry.
-/
import Derived.Test.YtcfkhkaheifbmaaChecked
import GoSem.Claim
import GoSem.ClaimJoined
import GoSem.ClaimMapViews
import Derived.JoinedTies
import Derived.KernelRfl
namespace Go.Proofs.Ytcfkhkaheifbmaa
/- THE CELL 'sum', in the pinned program and in every row, IS THE sha256 OF THE DUMP (.gsa) THAT YtcfkhkaheifbmaaProg.lean LOADS. Nothing in Lean hashes anything: it is a label: what it is worth is what the hold of that sum in a sandbox is worth. -/
noncomputable def Try.pinned : Pinned := { name := "ytcfkhkaheifbmaa", sum := "1327ff8b83f1c077e4080487fa57f064ee57091502c2d26eb5d045d15ba4b492", checked := Try.checked }
namespace Rows
def none {H : Type} : Left H := { results := [], args := [] }

/-- 'cattlecreeplaw.HexTells': WHATEVER THE INPUT: true; the input reads as it did. -/
def hexTellsSpec : ChangeSpec := { name := "hexTells", fn := fun _ => fun
  | [d1, d2] => { results := [.lit (.bool true)], args := [d1, d2] }
  | _ => none }
def hexTellsRow : OpenClaim := { program := "ytcfkhkaheifbmaa", sum := "1327ff8b83f1c077e4080487fa57f064ee57091502c2d26eb5d045d15ba4b492", func := "cattlecreep/cattlecreeplaw.HexTells", spec := "hexTells", inPlace := ["internal/bytealg.IndexByteString"], apart := false }
def HexTellsSaid : Prop := hexTellsRow.holds Try.pinned (OpenSpec.ofChange hexTellsSpec)

/-- ITS FALSE NEIGHBOUR: 'it returns false'. Refute it at one input. -/
def hexTellsWrong : ChangeSpec := { name := "hexTells", fn := fun _ => fun
  | [d1, d2] => { results := [.lit (.bool false)], args := [d1, d2] }
  | _ => none }
def HexTellsWrongFalsely : Prop := hexTellsRow.holds Try.pinned (OpenSpec.ofChange hexTellsWrong)

/-- 'cattlecreeplaw.HexChecks': WHATEVER THE INPUT: true; the input reads as it did. -/
def hexChecksSpec : ChangeSpec := { name := "hexChecks", fn := fun _ => fun
  | [d] => { results := [.lit (.bool true)], args := [d] }
  | _ => none }
def hexChecksRow : OpenClaim := { program := "ytcfkhkaheifbmaa", sum := "1327ff8b83f1c077e4080487fa57f064ee57091502c2d26eb5d045d15ba4b492", func := "cattlecreep/cattlecreeplaw.HexChecks", spec := "hexChecks", inPlace := ["internal/bytealg.IndexByteString"], apart := false }
def HexChecksSaid : Prop := hexChecksRow.holds Try.pinned (OpenSpec.ofChange hexChecksSpec)

/-- ITS FALSE NEIGHBOUR: 'it returns false'. Refute it at one input. -/
def hexChecksWrong : ChangeSpec := { name := "hexChecks", fn := fun _ => fun
  | [d] => { results := [.lit (.bool false)], args := [d] }
  | _ => none }
def HexChecksWrongFalsely : Prop := hexChecksRow.holds Try.pinned (OpenSpec.ofChange hexChecksWrong)

/-- 'cattlecreepkeep.HexBack': WHATEVER THE INPUT: true; the input reads as it did. -/
def hexBackSpec : ChangeSpec := { name := "hexBack", fn := fun _ => fun
  | [d] => { results := [.lit (.bool true)], args := [d] }
  | _ => none }
def hexBackRow : OpenClaim := { program := "ytcfkhkaheifbmaa", sum := "1327ff8b83f1c077e4080487fa57f064ee57091502c2d26eb5d045d15ba4b492", func := "cattlecreep/cattlecreepkeep.HexBack", spec := "hexBack", apart := false }
def HexBackSaid : Prop := hexBackRow.holds Try.pinned (OpenSpec.ofChange hexBackSpec)

/-- ITS FALSE NEIGHBOUR: 'it returns false'. Refute it at one input. -/
def hexBackWrong : ChangeSpec := { name := "hexBack", fn := fun _ => fun
  | [d] => { results := [.lit (.bool false)], args := [d] }
  | _ => none }
def HexBackWrongFalsely : Prop := hexBackRow.holds Try.pinned (OpenSpec.ofChange hexBackWrong)

/-- 'cattlecreepkeep.HexTurns': WHATEVER THE INPUT: true; the input reads as it did. -/
def hexTurnsSpec : ChangeSpec := { name := "hexTurns", fn := fun _ => fun
  | [d] => { results := [.lit (.bool true)], args := [d] }
  | _ => none }
def hexTurnsRow : OpenClaim := { program := "ytcfkhkaheifbmaa", sum := "1327ff8b83f1c077e4080487fa57f064ee57091502c2d26eb5d045d15ba4b492", func := "cattlecreep/cattlecreepkeep.HexTurns", spec := "hexTurns", apart := false }
def HexTurnsSaid : Prop := hexTurnsRow.holds Try.pinned (OpenSpec.ofChange hexTurnsSpec)

/-- ITS FALSE NEIGHBOUR: 'it returns false'. Refute it at one input. -/
def hexTurnsWrong : ChangeSpec := { name := "hexTurns", fn := fun _ => fun
  | [d] => { results := [.lit (.bool false)], args := [d] }
  | _ => none }
def HexTurnsWrongFalsely : Prop := hexTurnsRow.holds Try.pinned (OpenSpec.ofChange hexTurnsWrong)

/- THE SECOND FORM. 'bulk': how many values and letters a reading holds, each counted each time it is reached (what is shared counts as often as it is met; a slice's spare places count too). A statement '..UptoSaid' is the law's where the arguments, and the package variables that the reading takes, are together of bulk at most 1048576: NARROWER than '..Said'. Prove '..Said' where nothing that the law and all that it calls make is longer than what came in: it says more and counts as full. Else prove '..UptoSaid'. A law counts once. -/
mutual
def uptoBulk {H : Type} : DataW H → Nat
  | .lit (.string bytes) => bytes.length + 1
  | .lit _ => 1
  | .nil => 1
  | .ptr d => uptoBulk d + 1
  | .slice elems spare => uptoBulkAll elems + uptoBulkAll spare + 1
  | .agg parts => uptoBulkAll parts + 1
  | .iface _ d => uptoBulk d + 1
  | .map entries => uptoBulkEntries entries + 1
  | .held _ => 1
def uptoBulkAll {H : Type} : List (DataW H) → Nat
  | [] => 0
  | d :: r => uptoBulk d + uptoBulkAll r
def uptoBulkEntries {H : Type} : List (Lit × DataW H) → Nat
  | [] => 0
  | x :: r => uptoBulkEntry x + uptoBulkEntries r
def uptoBulkEntry {H : Type} : Lit × DataW H → Nat
  | (.string bytes, d) => bytes.length + uptoBulk d + 1
  | (_, d) => uptoBulk d + 1
 end
def uptoSmall : (H : Type) → List (DataW H) → Bool := fun _ ds => decide (uptoBulkAll ds ≤ 1048576)
def OpenSpec.upto (s : _root_.Go.ChangeSpec) : _root_.Go.OpenSpec := { _root_.Go.OpenSpec.ofChange s with cond := some uptoSmall }

/-- 'cattlecreeplaw.HexTells', WHERE WHAT IT READS IS OF BULK AT MOST 1048576: true; the input reads as it did. -/
def hexTellsUptoRow : OpenClaim := { program := "ytcfkhkaheifbmaa", sum := "1327ff8b83f1c077e4080487fa57f064ee57091502c2d26eb5d045d15ba4b492", func := "cattlecreep/cattlecreeplaw.HexTells", spec := "hexTells", inPlace := ["internal/bytealg.IndexByteString"], apart := false, narrowed := true }
def HexTellsUptoSaid : Prop := hexTellsUptoRow.holds Try.pinned (OpenSpec.upto hexTellsSpec)

/-- 'cattlecreeplaw.HexChecks', WHERE WHAT IT READS IS OF BULK AT MOST 1048576: true; the input reads as it did. -/
def hexChecksUptoRow : OpenClaim := { program := "ytcfkhkaheifbmaa", sum := "1327ff8b83f1c077e4080487fa57f064ee57091502c2d26eb5d045d15ba4b492", func := "cattlecreep/cattlecreeplaw.HexChecks", spec := "hexChecks", inPlace := ["internal/bytealg.IndexByteString"], apart := false, narrowed := true }
def HexChecksUptoSaid : Prop := hexChecksUptoRow.holds Try.pinned (OpenSpec.upto hexChecksSpec)

/-- 'cattlecreepkeep.HexBack', WHERE WHAT IT READS IS OF BULK AT MOST 1048576: true; the input reads as it did. -/
def hexBackUptoRow : OpenClaim := { program := "ytcfkhkaheifbmaa", sum := "1327ff8b83f1c077e4080487fa57f064ee57091502c2d26eb5d045d15ba4b492", func := "cattlecreep/cattlecreepkeep.HexBack", spec := "hexBack", apart := false, narrowed := true }
def HexBackUptoSaid : Prop := hexBackUptoRow.holds Try.pinned (OpenSpec.upto hexBackSpec)

/-- 'cattlecreepkeep.HexTurns', WHERE WHAT IT READS IS OF BULK AT MOST 1048576: true; the input reads as it did. -/
def hexTurnsUptoRow : OpenClaim := { program := "ytcfkhkaheifbmaa", sum := "1327ff8b83f1c077e4080487fa57f064ee57091502c2d26eb5d045d15ba4b492", func := "cattlecreep/cattlecreepkeep.HexTurns", spec := "hexTurns", apart := false, narrowed := true }
def HexTurnsUptoSaid : Prop := hexTurnsUptoRow.holds Try.pinned (OpenSpec.upto hexTurnsSpec)

end Rows
end Go.Proofs.Ytcfkhkaheifbmaa
