/- The contract of bytes.Clone. -/
import Derived.Test.YtfgkodgdoplpbabPackMem
namespace Go.Proofs.Ytfgkodgdoplpbab
open Go.RowKit

set_option maxHeartbeats 400000 in
theorem bytes_Clone (a : Option Addr) (n c : Nat) (bs : List UInt8) (w : World) (h : BytesAt w w.heap.size a n bs) (hnil : a = none → n = 0 ∧ c = 0) (hn : n ≤ 140737488355328) :
    Calls Try.prog 28 #[.slice a n c] w (RowPost bs w) := by
  have Hb := Lib.hid h
  have Hn := Lib.hid hnil
  have hq := fun W => Lib.run_eql_slice_nil (P := Try.prog) W 22 5 a n c 0 0 Try.underlying22
  cases a with
  | none =>
    obtain ⟨rfl, rfl⟩ := hnil rfl
    obtain rfl : bs = [] := List.eq_nil_of_length_eq_zero h.1
    clear h hnil
    go_enter Try.func28, Try.ntmps28
    go_wp2
    go_ret
    exact ⟨_, _, _, rfl, World.ownsRow_nil _ _ _ _, Below.refl _ _⟩
  | some ad =>
    clear h hnil
    go_enter Try.func28, Try.ntmps28
    go_wp2_with (at_builtin; refine wpL_append8 _ rfl _ _ rfl w.heap.size _ 0 _ [] rfl ?c0 _ n _ (bcells bs) rfl ?c1 ?c2 ?c3 (bcells_one _) ?c4 ?c6 ?_)
    case c0 => exact own_block (heap_alloc_last w _) (Nat.le_refl _) rfl (by decide)
    case c1 => rw [bcells_length]; exact Hb.out.1
    case c2 => exact Hn.out
    case c3 => exact (Hb.out.below ((Below.refl _ _).alloc (Nat.le_refl _) _)).news
    case c4 => omega
    case c6 => simp
    intro a1 c1 w1 ho1 hg1
    have hb1 : Below w.heap.size w w1 := below_own ((Below.refl _ _).alloc (Nat.le_refl _) _) (own_block (heap_alloc_last w _) (Nat.le_refl w.heap.size) rfl (by decide)) hg1 (Nat.le_refl _) (by simp)
    clear hg1
    go_wp2
    go_ret
    refine ⟨_, _, _, rfl, ?_, hb1⟩
    rw [Hb.out.1]
    simpa using ho1

end Go.Proofs.Ytfgkodgdoplpbab
