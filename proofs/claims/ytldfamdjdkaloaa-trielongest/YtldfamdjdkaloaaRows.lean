/-
  No cell of these rows narrows 'for every input' (looked for: loops, veiled, ifaces, maps, wideKeys, modest, calm, conditions, laid).
  DERIVED. THE GIVEN ROWS OF THIS SEAT. 12 by the template 'for every input the law returns true; each argument reads behind the call as it read before'; 0 by the template 'total and deterministic' (their statements: YtldfamdjdkaloaaTotals.lean).
  GIVEN WITH THE SEED: the statements are not yours to turn. If you find one false, say at which input.
  Laid BY PROGRAM, IN A SANDBOX (cutbox-rows.mjs): the forced cells as the released guide's own fill.sh prints them over the translation cb806e79717dbfd9… (all of the seat's roots in one cut). By AI agents, Wed Nov 11 2026. No macro, syntax, notation, axiom, sorry.
-/
import Derived.Test.YtldfamdjdkaloaaChecked
import GoSem.Claim
import GoSem.ClaimJoined
import GoSem.ClaimMapViews
import Derived.JoinedTies
import Derived.KernelRfl
namespace Go.Proofs.Ytldfamdjdkaloaa
/- THE CELL 'sum', in the pinned program and in every row, IS THE sha256 OF THE DUMP (.gsa) THAT YtldfamdjdkaloaaProg.lean LOADS. Nothing in Lean hashes anything: it is a label: what it is worth is what the hold of that sum in a sandbox is worth. -/
noncomputable def Try.pinned : Pinned := { name := "ytldfamdjdkaloaa", sum := "cb806e79717dbfd98383ded3e4999762129cad0055947fc4830741ebf6638175", checked := Try.checked }
namespace Rows
def none {H : Type} : Left H := { results := [], args := [] }

/-- 'cattlecreeplaw.TrieChecks': WHATEVER THE INPUT: true; the input reads as it did. -/
def trieChecksSpec : ChangeSpec := { name := "trieChecks", fn := fun _ => fun
  | [d] => { results := [.lit (.bool true)], args := [d] }
  | _ => none }
def trieChecksRow : OpenClaim := { program := "ytldfamdjdkaloaa", sum := "cb806e79717dbfd98383ded3e4999762129cad0055947fc4830741ebf6638175", func := "cattlecreep/cattlecreeplaw.TrieChecks", spec := "trieChecks", unfollowed := true, recurses := true, plainKeys := false, apart := false }
def TrieChecksSaid : Prop := trieChecksRow.holds Try.pinned (OpenSpec.ofChange trieChecksSpec)

/-- ITS FALSE NEIGHBOUR: 'it returns false'. Refute it at one input. -/
def trieChecksWrong : ChangeSpec := { name := "trieChecks", fn := fun _ => fun
  | [d] => { results := [.lit (.bool false)], args := [d] }
  | _ => none }
def TrieChecksWrongFalsely : Prop := trieChecksRow.holds Try.pinned (OpenSpec.ofChange trieChecksWrong)

/-- 'cattlecreeplaw.TriePuts': WHATEVER THE INPUT: true; the input reads as it did. -/
def triePutsSpec : ChangeSpec := { name := "triePuts", fn := fun _ => fun
  | [d1, d2, d3] => { results := [.lit (.bool true)], args := [d1, d2, d3] }
  | _ => none }
def triePutsRow : OpenClaim := { program := "ytldfamdjdkaloaa", sum := "cb806e79717dbfd98383ded3e4999762129cad0055947fc4830741ebf6638175", func := "cattlecreep/cattlecreeplaw.TriePuts", spec := "triePuts", inPlace := ["slices.overlaps[cattlecreep/api.Node]"], unfollowed := true, recurses := true, plainKeys := false, apart := false }
def TriePutsSaid : Prop := triePutsRow.holds Try.pinned (OpenSpec.ofChange triePutsSpec)

/-- ITS FALSE NEIGHBOUR: 'it returns false'. Refute it at one input. -/
def triePutsWrong : ChangeSpec := { name := "triePuts", fn := fun _ => fun
  | [d1, d2, d3] => { results := [.lit (.bool false)], args := [d1, d2, d3] }
  | _ => none }
def TriePutsWrongFalsely : Prop := triePutsRow.holds Try.pinned (OpenSpec.ofChange triePutsWrong)

/-- 'cattlecreeplaw.TrieGets': WHATEVER THE INPUT: true; the input reads as it did. -/
def trieGetsSpec : ChangeSpec := { name := "trieGets", fn := fun _ => fun
  | [d1, d2] => { results := [.lit (.bool true)], args := [d1, d2] }
  | _ => none }
def trieGetsRow : OpenClaim := { program := "ytldfamdjdkaloaa", sum := "cb806e79717dbfd98383ded3e4999762129cad0055947fc4830741ebf6638175", func := "cattlecreep/cattlecreeplaw.TrieGets", spec := "trieGets", unfollowed := true, recurses := true, plainKeys := false, apart := false }
def TrieGetsSaid : Prop := trieGetsRow.holds Try.pinned (OpenSpec.ofChange trieGetsSpec)

/-- ITS FALSE NEIGHBOUR: 'it returns false'. Refute it at one input. -/
def trieGetsWrong : ChangeSpec := { name := "trieGets", fn := fun _ => fun
  | [d1, d2] => { results := [.lit (.bool false)], args := [d1, d2] }
  | _ => none }
def TrieGetsWrongFalsely : Prop := trieGetsRow.holds Try.pinned (OpenSpec.ofChange trieGetsWrong)

/-- 'cattlecreeplaw.TrieDrops': WHATEVER THE INPUT: true; the input reads as it did. -/
def trieDropsSpec : ChangeSpec := { name := "trieDrops", fn := fun _ => fun
  | [d1, d2] => { results := [.lit (.bool true)], args := [d1, d2] }
  | _ => none }
def trieDropsRow : OpenClaim := { program := "ytldfamdjdkaloaa", sum := "cb806e79717dbfd98383ded3e4999762129cad0055947fc4830741ebf6638175", func := "cattlecreep/cattlecreeplaw.TrieDrops", spec := "trieDrops", unfollowed := true, recurses := true, plainKeys := false, apart := false }
def TrieDropsSaid : Prop := trieDropsRow.holds Try.pinned (OpenSpec.ofChange trieDropsSpec)

/-- ITS FALSE NEIGHBOUR: 'it returns false'. Refute it at one input. -/
def trieDropsWrong : ChangeSpec := { name := "trieDrops", fn := fun _ => fun
  | [d1, d2] => { results := [.lit (.bool false)], args := [d1, d2] }
  | _ => none }
def TrieDropsWrongFalsely : Prop := trieDropsRow.holds Try.pinned (OpenSpec.ofChange trieDropsWrong)

/-- 'cattlecreeplaw.TrieFinds': WHATEVER THE INPUT: true; the input reads as it did. -/
def trieFindsSpec : ChangeSpec := { name := "trieFinds", fn := fun _ => fun
  | [d1, d2] => { results := [.lit (.bool true)], args := [d1, d2] }
  | _ => none }
def trieFindsRow : OpenClaim := { program := "ytldfamdjdkaloaa", sum := "cb806e79717dbfd98383ded3e4999762129cad0055947fc4830741ebf6638175", func := "cattlecreep/cattlecreeplaw.TrieFinds", spec := "trieFinds", unfollowed := true, recurses := true, plainKeys := false, apart := false }
def TrieFindsSaid : Prop := trieFindsRow.holds Try.pinned (OpenSpec.ofChange trieFindsSpec)

/-- ITS FALSE NEIGHBOUR: 'it returns false'. Refute it at one input. -/
def trieFindsWrong : ChangeSpec := { name := "trieFinds", fn := fun _ => fun
  | [d1, d2] => { results := [.lit (.bool false)], args := [d1, d2] }
  | _ => none }
def TrieFindsWrongFalsely : Prop := trieFindsRow.holds Try.pinned (OpenSpec.ofChange trieFindsWrong)

/-- 'cattlecreepkeep.TrieOwns': WHATEVER THE INPUT: true; the input reads as it did. -/
def trieOwnsSpec : ChangeSpec := { name := "trieOwns", fn := fun _ => fun
  | [d] => { results := [.lit (.bool true)], args := [d] }
  | _ => none }
def trieOwnsRow : OpenClaim := { program := "ytldfamdjdkaloaa", sum := "cb806e79717dbfd98383ded3e4999762129cad0055947fc4830741ebf6638175", func := "cattlecreep/cattlecreepkeep.TrieOwns", spec := "trieOwns", inPlace := ["internal/abi.NoEscape", "internal/bytealg.MakeNoZero", "slices.overlaps[cattlecreep/api.Node]"], unfollowed := true, recurses := true, plainKeys := false, apart := false }
def TrieOwnsSaid : Prop := trieOwnsRow.holds Try.pinned (OpenSpec.ofChange trieOwnsSpec)

/-- ITS FALSE NEIGHBOUR: 'it returns false'. Refute it at one input. -/
def trieOwnsWrong : ChangeSpec := { name := "trieOwns", fn := fun _ => fun
  | [d] => { results := [.lit (.bool false)], args := [d] }
  | _ => none }
def TrieOwnsWrongFalsely : Prop := trieOwnsRow.holds Try.pinned (OpenSpec.ofChange trieOwnsWrong)

/-- 'cattlecreepkeep.TrieSmall': WHATEVER THE INPUT: true; the input reads as it did. -/
def trieSmallSpec : ChangeSpec := { name := "trieSmall", fn := fun _ => fun
  | [d] => { results := [.lit (.bool true)], args := [d] }
  | _ => none }
def trieSmallRow : OpenClaim := { program := "ytldfamdjdkaloaa", sum := "cb806e79717dbfd98383ded3e4999762129cad0055947fc4830741ebf6638175", func := "cattlecreep/cattlecreepkeep.TrieSmall", spec := "trieSmall", inPlace := ["internal/abi.NoEscape", "internal/bytealg.MakeNoZero", "slices.overlaps[cattlecreep/api.Node]"], unfollowed := true, recurses := true, plainKeys := false, apart := false }
def TrieSmallSaid : Prop := trieSmallRow.holds Try.pinned (OpenSpec.ofChange trieSmallSpec)

/-- ITS FALSE NEIGHBOUR: 'it returns false'. Refute it at one input. -/
def trieSmallWrong : ChangeSpec := { name := "trieSmall", fn := fun _ => fun
  | [d] => { results := [.lit (.bool false)], args := [d] }
  | _ => none }
def TrieSmallWrongFalsely : Prop := trieSmallRow.holds Try.pinned (OpenSpec.ofChange trieSmallWrong)

/-- 'cattlecreepkeep.TrieLongest': WHATEVER THE INPUT: true; the input reads as it did. -/
def trieLongestSpec : ChangeSpec := { name := "trieLongest", fn := fun _ => fun
  | [d1, d2, d3] => { results := [.lit (.bool true)], args := [d1, d2, d3] }
  | _ => none }
def trieLongestRow : OpenClaim := { program := "ytldfamdjdkaloaa", sum := "cb806e79717dbfd98383ded3e4999762129cad0055947fc4830741ebf6638175", func := "cattlecreep/cattlecreepkeep.TrieLongest", spec := "trieLongest", inPlace := ["internal/abi.NoEscape", "internal/bytealg.MakeNoZero", "slices.overlaps[cattlecreep/api.Node]"], unfollowed := true, recurses := true, plainKeys := false, apart := false }
def TrieLongestSaid : Prop := trieLongestRow.holds Try.pinned (OpenSpec.ofChange trieLongestSpec)

/-- ITS FALSE NEIGHBOUR: 'it returns false'. Refute it at one input. -/
def trieLongestWrong : ChangeSpec := { name := "trieLongest", fn := fun _ => fun
  | [d1, d2, d3] => { results := [.lit (.bool false)], args := [d1, d2, d3] }
  | _ => none }
def TrieLongestWrongFalsely : Prop := trieLongestRow.holds Try.pinned (OpenSpec.ofChange trieLongestWrong)

/-- 'cattlecreepkeep.TrieBack': WHATEVER THE INPUT: true; the input reads as it did. -/
def trieBackSpec : ChangeSpec := { name := "trieBack", fn := fun _ => fun
  | [d1, d2] => { results := [.lit (.bool true)], args := [d1, d2] }
  | _ => none }
def trieBackRow : OpenClaim := { program := "ytldfamdjdkaloaa", sum := "cb806e79717dbfd98383ded3e4999762129cad0055947fc4830741ebf6638175", func := "cattlecreep/cattlecreepkeep.TrieBack", spec := "trieBack", inPlace := ["internal/abi.NoEscape", "internal/bytealg.MakeNoZero", "slices.overlaps[cattlecreep/api.Node]"], unfollowed := true, recurses := true, plainKeys := false, apart := false }
def TrieBackSaid : Prop := trieBackRow.holds Try.pinned (OpenSpec.ofChange trieBackSpec)

/-- ITS FALSE NEIGHBOUR: 'it returns false'. Refute it at one input. -/
def trieBackWrong : ChangeSpec := { name := "trieBack", fn := fun _ => fun
  | [d1, d2] => { results := [.lit (.bool false)], args := [d1, d2] }
  | _ => none }
def TrieBackWrongFalsely : Prop := trieBackRow.holds Try.pinned (OpenSpec.ofChange trieBackWrong)

/-- 'cattlecreepkeep.TrieAny': WHATEVER THE INPUT: true; the input reads as it did. -/
def trieAnySpec : ChangeSpec := { name := "trieAny", fn := fun _ => fun
  | [d] => { results := [.lit (.bool true)], args := [d] }
  | _ => none }
def trieAnyRow : OpenClaim := { program := "ytldfamdjdkaloaa", sum := "cb806e79717dbfd98383ded3e4999762129cad0055947fc4830741ebf6638175", func := "cattlecreep/cattlecreepkeep.TrieAny", spec := "trieAny", inPlace := ["slices.overlaps[cattlecreep/api.Node]", "internal/abi.NoEscape", "internal/bytealg.MakeNoZero"], unfollowed := true, recurses := true, plainKeys := false, apart := false }
def TrieAnySaid : Prop := trieAnyRow.holds Try.pinned (OpenSpec.ofChange trieAnySpec)

/-- ITS FALSE NEIGHBOUR: 'it returns false'. Refute it at one input. -/
def trieAnyWrong : ChangeSpec := { name := "trieAny", fn := fun _ => fun
  | [d] => { results := [.lit (.bool false)], args := [d] }
  | _ => none }
def TrieAnyWrongFalsely : Prop := trieAnyRow.holds Try.pinned (OpenSpec.ofChange trieAnyWrong)

/-- 'cattlecreepkeep.TrieLeaves': WHATEVER THE INPUT: true; the input reads as it did. -/
def trieLeavesSpec : ChangeSpec := { name := "trieLeaves", fn := fun _ => fun
  | [d1, d2] => { results := [.lit (.bool true)], args := [d1, d2] }
  | _ => none }
def trieLeavesRow : OpenClaim := { program := "ytldfamdjdkaloaa", sum := "cb806e79717dbfd98383ded3e4999762129cad0055947fc4830741ebf6638175", func := "cattlecreep/cattlecreepkeep.TrieLeaves", spec := "trieLeaves", inPlace := ["internal/abi.NoEscape", "internal/bytealg.MakeNoZero", "slices.overlaps[cattlecreep/api.Node]"], unfollowed := true, recurses := true, plainKeys := false, apart := false }
def TrieLeavesSaid : Prop := trieLeavesRow.holds Try.pinned (OpenSpec.ofChange trieLeavesSpec)

/-- ITS FALSE NEIGHBOUR: 'it returns false'. Refute it at one input. -/
def trieLeavesWrong : ChangeSpec := { name := "trieLeaves", fn := fun _ => fun
  | [d1, d2] => { results := [.lit (.bool false)], args := [d1, d2] }
  | _ => none }
def TrieLeavesWrongFalsely : Prop := trieLeavesRow.holds Try.pinned (OpenSpec.ofChange trieLeavesWrong)

/-- 'cattlecreepkeep.TrieOwn': WHATEVER THE INPUT: true; the input reads as it did. -/
def trieOwnSpec : ChangeSpec := { name := "trieOwn", fn := fun _ => fun
  | [d1, d2] => { results := [.lit (.bool true)], args := [d1, d2] }
  | _ => none }
def trieOwnRow : OpenClaim := { program := "ytldfamdjdkaloaa", sum := "cb806e79717dbfd98383ded3e4999762129cad0055947fc4830741ebf6638175", func := "cattlecreep/cattlecreepkeep.TrieOwn", spec := "trieOwn", inPlace := ["internal/abi.NoEscape", "internal/bytealg.MakeNoZero", "slices.overlaps[cattlecreep/api.Node]"], unfollowed := true, recurses := true, plainKeys := false, apart := false }
def TrieOwnSaid : Prop := trieOwnRow.holds Try.pinned (OpenSpec.ofChange trieOwnSpec)

/-- ITS FALSE NEIGHBOUR: 'it returns false'. Refute it at one input. -/
def trieOwnWrong : ChangeSpec := { name := "trieOwn", fn := fun _ => fun
  | [d1, d2] => { results := [.lit (.bool false)], args := [d1, d2] }
  | _ => none }
def TrieOwnWrongFalsely : Prop := trieOwnRow.holds Try.pinned (OpenSpec.ofChange trieOwnWrong)

/- THE SECOND FORM. 'bulk': how many values and letters a reading holds, each counted each time it is reached (what is shared counts as often as it is met; a slice's spare places count too). A statement '..UptoSaid' is the law's where the arguments, and the package variables that the reading takes, are together of bulk at most 1048576: NARROWER than '..Said'. Prove '..Said' where nothing that the law and all that it calls make is longer than what came in: it says more and counts as full. Else prove '..UptoSaid'. A law counts once. -/
mutual
def uptoBulk {H : Type} : DataW H → Nat
  | .lit (.string bytes) => bytes.length + 1
  | .lit _ => 1
  | .nil => 1
  | .ptr d => uptoBulk d + 1
  | .slice elems spare => uptoBulkAll elems + uptoBulkAll spare + 1
  | .agg parts => uptoBulkAll parts + 1
  | .iface _ d => uptoBulk d + 1
  | .map entries => uptoBulkEntries entries + 1
  | .held _ => 1
def uptoBulkAll {H : Type} : List (DataW H) → Nat
  | [] => 0
  | d :: r => uptoBulk d + uptoBulkAll r
def uptoBulkEntries {H : Type} : List (Lit × DataW H) → Nat
  | [] => 0
  | x :: r => uptoBulkEntry x + uptoBulkEntries r
def uptoBulkEntry {H : Type} : Lit × DataW H → Nat
  | (.string bytes, d) => bytes.length + uptoBulk d + 1
  | (_, d) => uptoBulk d + 1
 end
def uptoSmall : (H : Type) → List (DataW H) → Bool := fun _ ds => decide (uptoBulkAll ds ≤ 1048576)
def OpenSpec.upto (s : _root_.Go.ChangeSpec) : _root_.Go.OpenSpec := { _root_.Go.OpenSpec.ofChange s with cond := some uptoSmall }

/-- 'cattlecreeplaw.TrieChecks', WHERE WHAT IT READS IS OF BULK AT MOST 1048576: true; the input reads as it did. -/
def trieChecksUptoRow : OpenClaim := { program := "ytldfamdjdkaloaa", sum := "cb806e79717dbfd98383ded3e4999762129cad0055947fc4830741ebf6638175", func := "cattlecreep/cattlecreeplaw.TrieChecks", spec := "trieChecks", unfollowed := true, recurses := true, plainKeys := false, apart := false, narrowed := true }
def TrieChecksUptoSaid : Prop := trieChecksUptoRow.holds Try.pinned (OpenSpec.upto trieChecksSpec)

/-- 'cattlecreeplaw.TriePuts', WHERE WHAT IT READS IS OF BULK AT MOST 1048576: true; the input reads as it did. -/
def triePutsUptoRow : OpenClaim := { program := "ytldfamdjdkaloaa", sum := "cb806e79717dbfd98383ded3e4999762129cad0055947fc4830741ebf6638175", func := "cattlecreep/cattlecreeplaw.TriePuts", spec := "triePuts", inPlace := ["slices.overlaps[cattlecreep/api.Node]"], unfollowed := true, recurses := true, plainKeys := false, apart := false, narrowed := true }
def TriePutsUptoSaid : Prop := triePutsUptoRow.holds Try.pinned (OpenSpec.upto triePutsSpec)

/-- 'cattlecreeplaw.TrieGets', WHERE WHAT IT READS IS OF BULK AT MOST 1048576: true; the input reads as it did. -/
def trieGetsUptoRow : OpenClaim := { program := "ytldfamdjdkaloaa", sum := "cb806e79717dbfd98383ded3e4999762129cad0055947fc4830741ebf6638175", func := "cattlecreep/cattlecreeplaw.TrieGets", spec := "trieGets", unfollowed := true, recurses := true, plainKeys := false, apart := false, narrowed := true }
def TrieGetsUptoSaid : Prop := trieGetsUptoRow.holds Try.pinned (OpenSpec.upto trieGetsSpec)

/-- 'cattlecreeplaw.TrieDrops', WHERE WHAT IT READS IS OF BULK AT MOST 1048576: true; the input reads as it did. -/
def trieDropsUptoRow : OpenClaim := { program := "ytldfamdjdkaloaa", sum := "cb806e79717dbfd98383ded3e4999762129cad0055947fc4830741ebf6638175", func := "cattlecreep/cattlecreeplaw.TrieDrops", spec := "trieDrops", unfollowed := true, recurses := true, plainKeys := false, apart := false, narrowed := true }
def TrieDropsUptoSaid : Prop := trieDropsUptoRow.holds Try.pinned (OpenSpec.upto trieDropsSpec)

/-- 'cattlecreeplaw.TrieFinds', WHERE WHAT IT READS IS OF BULK AT MOST 1048576: true; the input reads as it did. -/
def trieFindsUptoRow : OpenClaim := { program := "ytldfamdjdkaloaa", sum := "cb806e79717dbfd98383ded3e4999762129cad0055947fc4830741ebf6638175", func := "cattlecreep/cattlecreeplaw.TrieFinds", spec := "trieFinds", unfollowed := true, recurses := true, plainKeys := false, apart := false, narrowed := true }
def TrieFindsUptoSaid : Prop := trieFindsUptoRow.holds Try.pinned (OpenSpec.upto trieFindsSpec)

/-- 'cattlecreepkeep.TrieOwns', WHERE WHAT IT READS IS OF BULK AT MOST 1048576: true; the input reads as it did. -/
def trieOwnsUptoRow : OpenClaim := { program := "ytldfamdjdkaloaa", sum := "cb806e79717dbfd98383ded3e4999762129cad0055947fc4830741ebf6638175", func := "cattlecreep/cattlecreepkeep.TrieOwns", spec := "trieOwns", inPlace := ["internal/abi.NoEscape", "internal/bytealg.MakeNoZero", "slices.overlaps[cattlecreep/api.Node]"], unfollowed := true, recurses := true, plainKeys := false, apart := false, narrowed := true }
def TrieOwnsUptoSaid : Prop := trieOwnsUptoRow.holds Try.pinned (OpenSpec.upto trieOwnsSpec)

/-- 'cattlecreepkeep.TrieSmall', WHERE WHAT IT READS IS OF BULK AT MOST 1048576: true; the input reads as it did. -/
def trieSmallUptoRow : OpenClaim := { program := "ytldfamdjdkaloaa", sum := "cb806e79717dbfd98383ded3e4999762129cad0055947fc4830741ebf6638175", func := "cattlecreep/cattlecreepkeep.TrieSmall", spec := "trieSmall", inPlace := ["internal/abi.NoEscape", "internal/bytealg.MakeNoZero", "slices.overlaps[cattlecreep/api.Node]"], unfollowed := true, recurses := true, plainKeys := false, apart := false, narrowed := true }
def TrieSmallUptoSaid : Prop := trieSmallUptoRow.holds Try.pinned (OpenSpec.upto trieSmallSpec)

/-- 'cattlecreepkeep.TrieLongest', WHERE WHAT IT READS IS OF BULK AT MOST 1048576: true; the input reads as it did. -/
def trieLongestUptoRow : OpenClaim := { program := "ytldfamdjdkaloaa", sum := "cb806e79717dbfd98383ded3e4999762129cad0055947fc4830741ebf6638175", func := "cattlecreep/cattlecreepkeep.TrieLongest", spec := "trieLongest", inPlace := ["internal/abi.NoEscape", "internal/bytealg.MakeNoZero", "slices.overlaps[cattlecreep/api.Node]"], unfollowed := true, recurses := true, plainKeys := false, apart := false, narrowed := true }
def TrieLongestUptoSaid : Prop := trieLongestUptoRow.holds Try.pinned (OpenSpec.upto trieLongestSpec)

/-- 'cattlecreepkeep.TrieBack', WHERE WHAT IT READS IS OF BULK AT MOST 1048576: true; the input reads as it did. -/
def trieBackUptoRow : OpenClaim := { program := "ytldfamdjdkaloaa", sum := "cb806e79717dbfd98383ded3e4999762129cad0055947fc4830741ebf6638175", func := "cattlecreep/cattlecreepkeep.TrieBack", spec := "trieBack", inPlace := ["internal/abi.NoEscape", "internal/bytealg.MakeNoZero", "slices.overlaps[cattlecreep/api.Node]"], unfollowed := true, recurses := true, plainKeys := false, apart := false, narrowed := true }
def TrieBackUptoSaid : Prop := trieBackUptoRow.holds Try.pinned (OpenSpec.upto trieBackSpec)

/-- 'cattlecreepkeep.TrieAny', WHERE WHAT IT READS IS OF BULK AT MOST 1048576: true; the input reads as it did. -/
def trieAnyUptoRow : OpenClaim := { program := "ytldfamdjdkaloaa", sum := "cb806e79717dbfd98383ded3e4999762129cad0055947fc4830741ebf6638175", func := "cattlecreep/cattlecreepkeep.TrieAny", spec := "trieAny", inPlace := ["slices.overlaps[cattlecreep/api.Node]", "internal/abi.NoEscape", "internal/bytealg.MakeNoZero"], unfollowed := true, recurses := true, plainKeys := false, apart := false, narrowed := true }
def TrieAnyUptoSaid : Prop := trieAnyUptoRow.holds Try.pinned (OpenSpec.upto trieAnySpec)

/-- 'cattlecreepkeep.TrieLeaves', WHERE WHAT IT READS IS OF BULK AT MOST 1048576: true; the input reads as it did. -/
def trieLeavesUptoRow : OpenClaim := { program := "ytldfamdjdkaloaa", sum := "cb806e79717dbfd98383ded3e4999762129cad0055947fc4830741ebf6638175", func := "cattlecreep/cattlecreepkeep.TrieLeaves", spec := "trieLeaves", inPlace := ["internal/abi.NoEscape", "internal/bytealg.MakeNoZero", "slices.overlaps[cattlecreep/api.Node]"], unfollowed := true, recurses := true, plainKeys := false, apart := false, narrowed := true }
def TrieLeavesUptoSaid : Prop := trieLeavesUptoRow.holds Try.pinned (OpenSpec.upto trieLeavesSpec)

/-- 'cattlecreepkeep.TrieOwn', WHERE WHAT IT READS IS OF BULK AT MOST 1048576: true; the input reads as it did. -/
def trieOwnUptoRow : OpenClaim := { program := "ytldfamdjdkaloaa", sum := "cb806e79717dbfd98383ded3e4999762129cad0055947fc4830741ebf6638175", func := "cattlecreep/cattlecreepkeep.TrieOwn", spec := "trieOwn", inPlace := ["internal/abi.NoEscape", "internal/bytealg.MakeNoZero", "slices.overlaps[cattlecreep/api.Node]"], unfollowed := true, recurses := true, plainKeys := false, apart := false, narrowed := true }
def TrieOwnUptoSaid : Prop := trieOwnUptoRow.holds Try.pinned (OpenSpec.upto trieOwnSpec)

end Rows
end Go.Proofs.Ytldfamdjdkaloaa
