/- The walk of TrieFinds, at an address as the row has it. -/
import Derived.Test.YtelanamcpadgdaaTrieLaw2
namespace Go.Proofs.Ytelanamcpadgdaa
open Go.RowKit

theorem walk_TrieFinds (a : Option Addr) (n c : Nat) (l : List Tr.Node) (x : Int) (w : World) (h : NodesAt w w.heap.size a n l) (hc : n ≤ c) (hf : Tr.fit l) (hn : n ≤ 3518437208780) (x0 : 0 ≤ x) (x1 : x ≤ 4294967295) :
    Calls Try.prog 7 #[.slice a n c, .int .u32 x] w fun e w' => e = .returned (.bool true) ∧ Below w.heap.size w w' := by
  obtain ⟨y, rfl⟩ : ∃ y : Nat, x = (y : Int) := ⟨x.toNat, by omega⟩
  exact trieFinds_walk a n c l y w h hc hf hn (by omega)
end Go.Proofs.Ytelanamcpadgdaa
