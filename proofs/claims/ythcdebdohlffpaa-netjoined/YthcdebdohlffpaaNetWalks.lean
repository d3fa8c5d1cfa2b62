/- The laws of chapter 7 that read no table, in the shape that the rows' proofs use. -/
import Derived.Test.YthcdebdohlffpaaNetLaw1
import Derived.Test.YthcdebdohlffpaaNetLaw2
import Derived.Test.YthcdebdohlffpaaNetLaw3
import Derived.Test.YthcdebdohlffpaaNetLaw6
namespace Go.Proofs.Ythcdebdohlffpaa
open Go.RowKit

theorem walk_NetChecks (a : Nat) (b : Int) (x n : Int) (w : World) (ha : a < 4294967296) (b0 : -9223372036854775808 ≤ b) (b1 : b ≤ 9223372036854775807) (x0 : 0 ≤ x) (x1 : x ≤ 4294967295) (n0 : -9223372036854775808 ≤ n) (n1 : n ≤ 9223372036854775807) :
    Calls Try.prog 3 #[netV a b, .int .u32 x, .int .i64 n] w fun e w' => e = .returned (.bool true) ∧ Below w.heap.size w w' := by
  obtain ⟨m, rfl⟩ : ∃ m : Nat, x = (m : Int) := ⟨x.toNat, by omega⟩
  exact law_NetChecks a b m n w ha (by omega) b0 b1 n0 n1
theorem walk_NetHolds (a : Nat) (b : Int) (c : Nat) (d : Int) (x : Int) (w : World) (ha : a < 4294967296) (b0 : -9223372036854775808 ≤ b) (b1 : b ≤ 9223372036854775807) (hc : c < 4294967296) (d0 : -9223372036854775808 ≤ d) (d1 : d ≤ 9223372036854775807) (x0 : 0 ≤ x) (x1 : x ≤ 4294967295) :
    Calls Try.prog 4 #[netV a b, netV c d, .int .u32 x] w fun e w' => e = .returned (.bool true) ∧ Below w.heap.size w w' := by
  obtain ⟨m, rfl⟩ : ∃ m : Nat, x = (m : Int) := ⟨x.toNat, by omega⟩
  exact law_NetHolds a b c d m w ha hc (by omega) b0 b1 d0 d1
theorem walk_NetJoins (a : Nat) (b : Int) (c : Nat) (d : Int) (w : World) (ha : a < 4294967296) (b0 : -9223372036854775808 ≤ b) (b1 : b ≤ 9223372036854775807) (hc : c < 4294967296) (d0 : -9223372036854775808 ≤ d) (d1 : d ≤ 9223372036854775807) :
    Calls Try.prog 5 #[netV a b, netV c d] w fun e w' => e = .returned (.bool true) ∧ Below w.heap.size w w' :=
  law_NetJoins a b c d w ha hc b0 b1 d0 d1
theorem walk_NetCut (a n m : Int) (w : World) (a0 : 0 ≤ a) (a1 : a ≤ 4294967295) (n0 : -9223372036854775808 ≤ n) (n1 : n ≤ 9223372036854775807) (m0 : -9223372036854775808 ≤ m) (m1 : m ≤ 9223372036854775807) :
    Calls Try.prog 8 #[.int .u32 a, .int .i64 n, .int .i64 m] w fun e w' => e = .returned (.bool true) ∧ Below w.heap.size w w' := by
  obtain ⟨x, rfl⟩ : ∃ x : Nat, a = (x : Int) := ⟨a.toNat, by omega⟩
  exact law_NetCut x n m w (by omega) n0 n1 m0 m1
end Go.Proofs.Ythcdebdohlffpaa
