/- What the functions that read bytes out of digits hand back. -/
import Derived.Test.YtjdflnnpamjjcaaDoorHexWalks
namespace Go.Proofs.YtjdflnnpamjjcaaDoor
open Go.RowKit

def BytesPost (s : ByteArray) (w : World) (e : Ending) (w' : World) : Prop :=
  ∃ a n c, e = .returned (.tuple #[.slice a n c, .int .i64 (Hx.bytesErr s.data.toList : Int)]) ∧
    w'.ownsRow w.heap.size 5 1 (.slice a n c) (Hx.bytes s.data.toList).length (bcells (Hx.bytes s.data.toList)) ∧ Below w.heap.size w w'

theorem allD_berr (s : ByteArray) : Hx.bytesErr s.data.toList = if 2000 < s.size then 1 else if s.size % 2 = 1 ∨ allD s = false then 3 else 0 := by
  simp [Hx.bytesErr, allD]
theorem bytesPost_err {s : ByteArray} {w wr : World} {r : Nat} (h : Hx.bytesErr s.data.toList = r) (h0 : r ≠ 0) (hb : Below w.heap.size w wr) : BytesPost s w (.returned (.tuple #[.slice none 0 0, .int .i64 (r : Int)])) wr := by
  refine ⟨none, 0, 0, by rw [h], ?_, hb⟩
  rw [Hx.bytes_err _ (by rw [h]; exact h0)]
  exact World.ownsRow_nil _ _ _ _
end Go.Proofs.YtjdflnnpamjjcaaDoor
