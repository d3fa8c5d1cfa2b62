/- The laws of chapter 7 that read the library's tables, in the shape that the rows' proofs use. -/
import Derived.Test.YthcdebdohlffpaaDoorNetLaw4
import Derived.Test.YthcdebdohlffpaaDoorNetLaw5
import Derived.Test.YthcdebdohlffpaaDoorNumFrame
namespace Go.Proofs.YthcdebdohlffpaaDoor
open Go.RowKit

theorem walk_NetTells (a : Nat) (b : Int) (s : ByteArray) (w : World) (ha : a < 4294967296) (b0 : -9223372036854775808 ≤ b) (b1 : b ≤ 9223372036854775807) (hs : s.size ≤ 1048576) (hT : AllTabs w) :
    Calls Tryd.prog 3 #[netV a b, .string s] w fun e w' => e = .returned (.bool true) ∧ Below w.heap.size w w' :=
  law_NetTells a b s w ha b0 b1 hs hT.1 hT.2.1 hT.2.2
theorem walk_NetBack (k a b : Int) (s : ByteArray) (w : World) (h : (-9223372036854775808 ≤ k ∧ k ≤ 9223372036854775807) ∧ (-9223372036854775808 ≤ a ∧ a ≤ 9223372036854775807) ∧ (-9223372036854775808 ≤ b ∧ b ≤ 9223372036854775807)) (hC : CodeTabs w) :
    Calls Tryd.prog 4 #[rawV k a b s] w fun e w' => e = .returned (.bool true) ∧ Below w.heap.size w w' :=
  law_NetBack k a b s w h.1.1 h.1.2 h.2.1.1 h.2.1.2 h.2.2.1 h.2.2.2 hC
end Go.Proofs.YthcdebdohlffpaaDoor
