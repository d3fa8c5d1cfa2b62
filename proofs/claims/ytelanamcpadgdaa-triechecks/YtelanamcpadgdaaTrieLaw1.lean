/- The walk of the law TrieChecks. -/
import Derived.Test.YtelanamcpadgdaaTrieRef3
namespace Go.Proofs.Ytelanamcpadgdaa
open Go.RowKit

set_option maxHeartbeats 800000 in
theorem trieChecks_walk (a : Option Addr) (n c : Nat) (l : List Tr.Node) (w : World) (h : NodesAt w w.heap.size a n l) (_hc : n ≤ c) (hf : Tr.fit l) (hn : n ≤ 3518437208780) :
    Calls Try.prog 3 #[.slice a n c] w fun e w' => e = .returned (.bool true) ∧ Below w.heap.size w w' := by
  have H1 := Lib.hid (trie_Check a n c l w h hf hn)
  have H2 := Lib.hid (fun (W : World) (hb : Below w.heap.size w W) => ref_TrieFault a n c l W ((h.below hb).up hb.size) hf hn)
  clear h hf
  generalize Tr.fault l = F at *
  go_enter Try.func3, Try.ntmps3
  go_wp2_with fail
  refine H1.out.mono ?_
  rintro e w2 ⟨rfl, b2⟩
  go_wp2_with fail
  refine (H2.out w2 b2).mono ?_
  rintro e w3 ⟨rfl, b3⟩
  have B3 := b2.trans (b3.mono b2.size)
  clear b2 b3 H1 H2
  go_wp2
  go_ret
  exact ⟨by simp, B3⟩
end Go.Proofs.Ytelanamcpadgdaa
