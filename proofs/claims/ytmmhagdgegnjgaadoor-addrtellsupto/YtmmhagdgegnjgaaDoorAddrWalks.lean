/- The four laws of chapter 6 in the shape that the rows' proofs use. -/
import Derived.Test.YtmmhagdgegnjgaaDoorAddrLaw1
import Derived.Test.YtmmhagdgegnjgaaDoorAddrLaw2
import Derived.Test.YtmmhagdgegnjgaaDoorAddrLaw3
import Derived.Test.YtmmhagdgegnjgaaDoorNumFrame
namespace Go.Proofs.YtmmhagdgegnjgaaDoor
open Go.RowKit

theorem walk_AddrTells (a : Int) (s : ByteArray) (w : World) (h0 : 0 ≤ a) (h1 : a ≤ 4294967295) (hs : s.size ≤ 1048576) (hT : AllTabs w) :
    Calls Tryd.prog 3 #[.int .u32 a, .string s] w fun e w' => e = .returned (.bool true) ∧ Below w.heap.size w w' := by
  obtain ⟨n, rfl⟩ : ∃ n : Nat, a = (n : Int) := ⟨a.toNat, by omega⟩
  exact law_AddrTells n s w (by omega) hs hT.1 hT.2.1 hT.2.2 ⟨hT.1, hT.2.2⟩
theorem walk_AddrEnds (s : ByteArray) (most : Int) (w : World) (hs : s.size ≤ 1048576) (_m0 : -9223372036854775808 ≤ most) (_m1 : most ≤ 9223372036854775807) (hT : AllTabs w) :
    Calls Tryd.prog 4 #[.string s, .int .i64 most] w fun e w' => e = .returned (.bool true) ∧ Below w.heap.size w w' :=
  law_AddrEnds s most w hs hT.1 hT.2.1 hT.2.2 ⟨hT.1, hT.2.2⟩
theorem walk_AddrBack (a n : Int) (w : World) (h0 : 0 ≤ a) (h1 : a ≤ 4294967295) (n0 : -9223372036854775808 ≤ n) (n1 : n ≤ 9223372036854775807) (hC : CodeTabs w) :
    Calls Tryd.prog 5 #[.int .u32 a, .int .i64 n] w fun e w' => e = .returned (.bool true) ∧ Below w.heap.size w w' := by
  obtain ⟨m, rfl⟩ : ∃ m : Nat, a = (m : Int) := ⟨a.toNat, by omega⟩
  exact law_AddrBack m n w (by omega) n0 n1 hC.1 hC
theorem walk_AddrTurns (s : ByteArray) (w : World) (hs : s.size ≤ reachBytes) (hC : CodeTabs w) :
    Calls Tryd.prog 6 #[.string s] w fun e w' => e = .returned (.bool true) ∧ Below w.heap.size w w' :=
  law_AddrTurns s w (by unfold reachBytes at hs; omega) hC
end Go.Proofs.YtmmhagdgegnjgaaDoor
