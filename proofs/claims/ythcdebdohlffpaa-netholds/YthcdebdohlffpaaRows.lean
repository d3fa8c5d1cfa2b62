/-
  No cell of these rows narrows 'for every input' (looked for: loops, veiled, ifaces, maps, wideKeys, modest, calm, conditions, laid).
  DERIVED. THE GIVEN ROWS OF THIS SEAT. 6 by the template 'for every input the law returns true; each argument reads behind the call as it read before'; 0 by the template 'total and deterministic' (their statements: YthcdebdohlffpaaTotals.lean).
  GIVEN WITH THE SEED: the statements are not yours to turn. If you find one false, say at which input.
  Laid BY PROGRAM, IN A SANDBOX (cutbox-rows.mjs): the forced cells as the released guide's own fill.sh prints them over the translation e1e32f3441471aa9… (all of the seat's roots in one cut). By AI agents, Wed Nov 11 2026. No macro, syntax, notation, axiom, sorry.
-/
import Derived.Test.YthcdebdohlffpaaChecked
import GoSem.Claim
import GoSem.ClaimJoined
import GoSem.ClaimMapViews
import Derived.JoinedTies
import Derived.KernelRfl
namespace Go.Proofs.Ythcdebdohlffpaa
/- THE CELL 'sum', in the pinned program and in every row, IS THE sha256 OF THE DUMP (.gsa) THAT YthcdebdohlffpaaProg.lean LOADS. Nothing in Lean hashes anything: it is a label: what it is worth is what the hold of that sum in a sandbox is worth. -/
noncomputable def Try.pinned : Pinned := { name := "ythcdebdohlffpaa", sum := "e1e32f3441471aa9b1306d6c50d45d23feb59a8474cdf99cf2948577afd62e66", checked := Try.checked }
namespace Rows
def none {H : Type} : Left H := { results := [], args := [] }

/-- 'cattlecreeplaw.NetChecks': WHATEVER THE INPUT: true; the input reads as it did. -/
def netChecksSpec : ChangeSpec := { name := "netChecks", fn := fun _ => fun
  | [d1, d2, d3] => { results := [.lit (.bool true)], args := [d1, d2, d3] }
  | _ => none }
def netChecksRow : OpenClaim := { program := "ythcdebdohlffpaa", sum := "e1e32f3441471aa9b1306d6c50d45d23feb59a8474cdf99cf2948577afd62e66", func := "cattlecreep/cattlecreeplaw.NetChecks", spec := "netChecks", apart := false }
def NetChecksSaid : Prop := netChecksRow.holds Try.pinned (OpenSpec.ofChange netChecksSpec)

/-- ITS FALSE NEIGHBOUR: 'it returns false'. Refute it at one input. -/
def netChecksWrong : ChangeSpec := { name := "netChecks", fn := fun _ => fun
  | [d1, d2, d3] => { results := [.lit (.bool false)], args := [d1, d2, d3] }
  | _ => none }
def NetChecksWrongFalsely : Prop := netChecksRow.holds Try.pinned (OpenSpec.ofChange netChecksWrong)

/-- 'cattlecreeplaw.NetHolds': WHATEVER THE INPUT: true; the input reads as it did. -/
def netHoldsSpec : ChangeSpec := { name := "netHolds", fn := fun _ => fun
  | [d1, d2, d3] => { results := [.lit (.bool true)], args := [d1, d2, d3] }
  | _ => none }
def netHoldsRow : OpenClaim := { program := "ythcdebdohlffpaa", sum := "e1e32f3441471aa9b1306d6c50d45d23feb59a8474cdf99cf2948577afd62e66", func := "cattlecreep/cattlecreeplaw.NetHolds", spec := "netHolds", apart := false }
def NetHoldsSaid : Prop := netHoldsRow.holds Try.pinned (OpenSpec.ofChange netHoldsSpec)

/-- ITS FALSE NEIGHBOUR: 'it returns false'. Refute it at one input. -/
def netHoldsWrong : ChangeSpec := { name := "netHolds", fn := fun _ => fun
  | [d1, d2, d3] => { results := [.lit (.bool false)], args := [d1, d2, d3] }
  | _ => none }
def NetHoldsWrongFalsely : Prop := netHoldsRow.holds Try.pinned (OpenSpec.ofChange netHoldsWrong)

/-- 'cattlecreeplaw.NetJoins': WHATEVER THE INPUT: true; the input reads as it did. -/
def netJoinsSpec : ChangeSpec := { name := "netJoins", fn := fun _ => fun
  | [d1, d2] => { results := [.lit (.bool true)], args := [d1, d2] }
  | _ => none }
def netJoinsRow : OpenClaim := { program := "ythcdebdohlffpaa", sum := "e1e32f3441471aa9b1306d6c50d45d23feb59a8474cdf99cf2948577afd62e66", func := "cattlecreep/cattlecreeplaw.NetJoins", spec := "netJoins", apart := false }
def NetJoinsSaid : Prop := netJoinsRow.holds Try.pinned (OpenSpec.ofChange netJoinsSpec)

/-- ITS FALSE NEIGHBOUR: 'it returns false'. Refute it at one input. -/
def netJoinsWrong : ChangeSpec := { name := "netJoins", fn := fun _ => fun
  | [d1, d2] => { results := [.lit (.bool false)], args := [d1, d2] }
  | _ => none }
def NetJoinsWrongFalsely : Prop := netJoinsRow.holds Try.pinned (OpenSpec.ofChange netJoinsWrong)

/-- 'cattlecreepkeep.NetWithin': WHATEVER THE INPUT: true; the input reads as it did. -/
def netWithinSpec : ChangeSpec := { name := "netWithin", fn := fun _ => fun
  | [d1, d2, d3] => { results := [.lit (.bool true)], args := [d1, d2, d3] }
  | _ => none }
def netWithinRow : OpenClaim := { program := "ythcdebdohlffpaa", sum := "e1e32f3441471aa9b1306d6c50d45d23feb59a8474cdf99cf2948577afd62e66", func := "cattlecreep/cattlecreepkeep.NetWithin", spec := "netWithin", unfollowed := true, recurses := true, apart := false }
def NetWithinSaid : Prop := netWithinRow.holds Try.pinned (OpenSpec.ofChange netWithinSpec)

/-- ITS FALSE NEIGHBOUR: 'it returns false'. Refute it at one input. -/
def netWithinWrong : ChangeSpec := { name := "netWithin", fn := fun _ => fun
  | [d1, d2, d3] => { results := [.lit (.bool false)], args := [d1, d2, d3] }
  | _ => none }
def NetWithinWrongFalsely : Prop := netWithinRow.holds Try.pinned (OpenSpec.ofChange netWithinWrong)

/-- 'cattlecreepkeep.NetJoined': WHATEVER THE INPUT: true; the input reads as it did. -/
def netJoinedSpec : ChangeSpec := { name := "netJoined", fn := fun _ => fun
  | [d1, d2, d3] => { results := [.lit (.bool true)], args := [d1, d2, d3] }
  | _ => none }
def netJoinedRow : OpenClaim := { program := "ythcdebdohlffpaa", sum := "e1e32f3441471aa9b1306d6c50d45d23feb59a8474cdf99cf2948577afd62e66", func := "cattlecreep/cattlecreepkeep.NetJoined", spec := "netJoined", unfollowed := true, recurses := true, apart := false }
def NetJoinedSaid : Prop := netJoinedRow.holds Try.pinned (OpenSpec.ofChange netJoinedSpec)

/-- ITS FALSE NEIGHBOUR: 'it returns false'. Refute it at one input. -/
def netJoinedWrong : ChangeSpec := { name := "netJoined", fn := fun _ => fun
  | [d1, d2, d3] => { results := [.lit (.bool false)], args := [d1, d2, d3] }
  | _ => none }
def NetJoinedWrongFalsely : Prop := netJoinedRow.holds Try.pinned (OpenSpec.ofChange netJoinedWrong)

/-- 'cattlecreepkeep.NetCut': WHATEVER THE INPUT: true; the input reads as it did. -/
def netCutSpec : ChangeSpec := { name := "netCut", fn := fun _ => fun
  | [d1, d2, d3] => { results := [.lit (.bool true)], args := [d1, d2, d3] }
  | _ => none }
def netCutRow : OpenClaim := { program := "ythcdebdohlffpaa", sum := "e1e32f3441471aa9b1306d6c50d45d23feb59a8474cdf99cf2948577afd62e66", func := "cattlecreep/cattlecreepkeep.NetCut", spec := "netCut", apart := false }
def NetCutSaid : Prop := netCutRow.holds Try.pinned (OpenSpec.ofChange netCutSpec)

/-- ITS FALSE NEIGHBOUR: 'it returns false'. Refute it at one input. -/
def netCutWrong : ChangeSpec := { name := "netCut", fn := fun _ => fun
  | [d1, d2, d3] => { results := [.lit (.bool false)], args := [d1, d2, d3] }
  | _ => none }
def NetCutWrongFalsely : Prop := netCutRow.holds Try.pinned (OpenSpec.ofChange netCutWrong)

/- THE SECOND FORM. 'bulk': how many values and letters a reading holds, each counted each time it is reached (what is shared counts as often as it is met; a slice's spare places count too). A statement '..UptoSaid' is the law's where the arguments, and the package variables that the reading takes, are together of bulk at most 1048576: NARROWER than '..Said'. Prove '..Said' where nothing that the law and all that it calls make is longer than what came in: it says more and counts as full. Else prove '..UptoSaid'. A law counts once. -/
mutual
def uptoBulk {H : Type} : DataW H → Nat
  | .lit (.string bytes) => bytes.length + 1
  | .lit _ => 1
  | .nil => 1
  | .ptr d => uptoBulk d + 1
  | .slice elems spare => uptoBulkAll elems + uptoBulkAll spare + 1
  | .agg parts => uptoBulkAll parts + 1
  | .iface _ d => uptoBulk d + 1
  | .map entries => uptoBulkEntries entries + 1
  | .held _ => 1
def uptoBulkAll {H : Type} : List (DataW H) → Nat
  | [] => 0
  | d :: r => uptoBulk d + uptoBulkAll r
def uptoBulkEntries {H : Type} : List (Lit × DataW H) → Nat
  | [] => 0
  | x :: r => uptoBulkEntry x + uptoBulkEntries r
def uptoBulkEntry {H : Type} : Lit × DataW H → Nat
  | (.string bytes, d) => bytes.length + uptoBulk d + 1
  | (_, d) => uptoBulk d + 1
 end
def uptoSmall : (H : Type) → List (DataW H) → Bool := fun _ ds => decide (uptoBulkAll ds ≤ 1048576)
def OpenSpec.upto (s : _root_.Go.ChangeSpec) : _root_.Go.OpenSpec := { _root_.Go.OpenSpec.ofChange s with cond := some uptoSmall }

/-- 'cattlecreeplaw.NetChecks', WHERE WHAT IT READS IS OF BULK AT MOST 1048576: true; the input reads as it did. -/
def netChecksUptoRow : OpenClaim := { program := "ythcdebdohlffpaa", sum := "e1e32f3441471aa9b1306d6c50d45d23feb59a8474cdf99cf2948577afd62e66", func := "cattlecreep/cattlecreeplaw.NetChecks", spec := "netChecks", apart := false, narrowed := true }
def NetChecksUptoSaid : Prop := netChecksUptoRow.holds Try.pinned (OpenSpec.upto netChecksSpec)

/-- 'cattlecreeplaw.NetHolds', WHERE WHAT IT READS IS OF BULK AT MOST 1048576: true; the input reads as it did. -/
def netHoldsUptoRow : OpenClaim := { program := "ythcdebdohlffpaa", sum := "e1e32f3441471aa9b1306d6c50d45d23feb59a8474cdf99cf2948577afd62e66", func := "cattlecreep/cattlecreeplaw.NetHolds", spec := "netHolds", apart := false, narrowed := true }
def NetHoldsUptoSaid : Prop := netHoldsUptoRow.holds Try.pinned (OpenSpec.upto netHoldsSpec)

/-- 'cattlecreeplaw.NetJoins', WHERE WHAT IT READS IS OF BULK AT MOST 1048576: true; the input reads as it did. -/
def netJoinsUptoRow : OpenClaim := { program := "ythcdebdohlffpaa", sum := "e1e32f3441471aa9b1306d6c50d45d23feb59a8474cdf99cf2948577afd62e66", func := "cattlecreep/cattlecreeplaw.NetJoins", spec := "netJoins", apart := false, narrowed := true }
def NetJoinsUptoSaid : Prop := netJoinsUptoRow.holds Try.pinned (OpenSpec.upto netJoinsSpec)

/-- 'cattlecreepkeep.NetWithin', WHERE WHAT IT READS IS OF BULK AT MOST 1048576: true; the input reads as it did. -/
def netWithinUptoRow : OpenClaim := { program := "ythcdebdohlffpaa", sum := "e1e32f3441471aa9b1306d6c50d45d23feb59a8474cdf99cf2948577afd62e66", func := "cattlecreep/cattlecreepkeep.NetWithin", spec := "netWithin", unfollowed := true, recurses := true, apart := false, narrowed := true }
def NetWithinUptoSaid : Prop := netWithinUptoRow.holds Try.pinned (OpenSpec.upto netWithinSpec)

/-- 'cattlecreepkeep.NetJoined', WHERE WHAT IT READS IS OF BULK AT MOST 1048576: true; the input reads as it did. -/
def netJoinedUptoRow : OpenClaim := { program := "ythcdebdohlffpaa", sum := "e1e32f3441471aa9b1306d6c50d45d23feb59a8474cdf99cf2948577afd62e66", func := "cattlecreep/cattlecreepkeep.NetJoined", spec := "netJoined", unfollowed := true, recurses := true, apart := false, narrowed := true }
def NetJoinedUptoSaid : Prop := netJoinedUptoRow.holds Try.pinned (OpenSpec.upto netJoinedSpec)

/-- 'cattlecreepkeep.NetCut', WHERE WHAT IT READS IS OF BULK AT MOST 1048576: true; the input reads as it did. -/
def netCutUptoRow : OpenClaim := { program := "ythcdebdohlffpaa", sum := "e1e32f3441471aa9b1306d6c50d45d23feb59a8474cdf99cf2948577afd62e66", func := "cattlecreep/cattlecreepkeep.NetCut", spec := "netCut", apart := false, narrowed := true }
def NetCutUptoSaid : Prop := netCutUptoRow.holds Try.pinned (OpenSpec.upto netCutSpec)

end Rows
end Go.Proofs.Ythcdebdohlffpaa
