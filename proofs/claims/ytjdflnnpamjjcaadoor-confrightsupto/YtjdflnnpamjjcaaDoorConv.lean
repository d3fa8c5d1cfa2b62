/- []byte(s): a new block that reads as the string. -/
import Derived.Test.YtjdflnnpamjjcaaDoorRows
import Derived.Test.YtjdflnnpamjjcaaDoorMem
import Derived.Lib.ConvBytes
namespace Go.Proofs.YtjdflnnpamjjcaaDoor
open Go.RowKit

/-- []byte(s): a new block that reads as the string. -/
theorem conv_string (s : ByteArray) (w : World) : ∃ w1 cap, (convert 9 60 (.string s)).run Tryd.prog w = .ok (.slice (some ⟨w.heap.size, 0, none⟩) s.size cap) w1 ∧
    w1.heap.size = w.heap.size + 1 ∧ Below w.heap.size w w1 ∧ ∀ i (h : i < s.size), w1.cell? ⟨w.heap.size, i, none⟩ = some (.int .u8 (s[i].toNat : Int)) := by
  refine ⟨_, _, Lib.run_convert_string_bytes (P := Tryd.prog) w _ _ 5 s Tryd.underlying9 Tryd.underlying60 Tryd.underlying5, Lib.bytesWorld_size w _ s, ⟨rfl, rfl, rfl, ?_, fun k hk => Lib.bytesWorld_at_old w _ s k hk⟩, fun i hi => ?_⟩
  · rw [Lib.bytesWorld_size]; omega
  · rw [Lib.bytesWorld_cell w _ s i hi, List.getD_eq_getElem?_getD, List.getElem?_eq_getElem (by simpa using hi)]; rfl
theorem conv_bytesAt {s : ByteArray} {w w1 : World} (hsz : w1.heap.size = w.heap.size + 1) (hcs : ∀ i (h : i < s.size), w1.cell? ⟨w.heap.size, i, none⟩ = some (.int .u8 (s[i].toNat : Int))) : BytesAt w1 w1.heap.size (some ⟨w.heap.size, 0, none⟩) s.size s.data.toList := by
  refine ⟨by simp, fun _ => ⟨w.heap.size, 0, rfl, by omega, fun i hi => ?_⟩⟩
  rw [Nat.zero_add, hcs i (by simpa using hi)]
  rfl
end Go.Proofs.YtjdflnnpamjjcaaDoor
