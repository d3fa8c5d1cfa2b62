/- The walk of LineJoins. -/
import Derived.Test.YtldfamdjdkaloabLineCode2
import Derived.Test.YtldfamdjdkaloabLineRef2
namespace Go.Proofs.Ytldfamdjdkaloab
open Go.RowKit

set_option maxHeartbeats 800000 in
theorem law_LineJoins (a : Option Addr) (n c : Nat) (l : List Ln.L) (w : World) (h : LinesAt w w.heap.size a n l) (_ : n ≤ c) :
    Calls Try.prog 3 #[.slice a n c] w fun e w' => e = .returned (.bool true) ∧ Below w.heap.size w w' := by
  have H1 := Lib.hid (line_Join a n c l w h)
  have H2 := Lib.hid (fun W (hW : Below w.heap.size w W) => ref_LinesText a n c l W (LinesAt.kept h hW))
  clear h
  generalize Ln.ofT (Ln.jOut l) = S at *
  generalize Ln.jErr l = r at *
  go_enter Try.func3, Try.ntmps3
  go_wp2_with fail
  refine H1.out.mono ?_
  rintro e w1 ⟨rfl, hb1⟩
  go_wp2_with fail
  refine (H2.out w1 hb1).mono ?_
  rintro e w2 ⟨rfl, hb2⟩
  have HB := Lib.hid (hb1.trans (hb2.mono hb1.size))
  clear hb1 hb2 H1 H2
  go_wp2
  go_ret
  exact ⟨rfl, HB.out⟩
end Go.Proofs.Ytldfamdjdkaloab
