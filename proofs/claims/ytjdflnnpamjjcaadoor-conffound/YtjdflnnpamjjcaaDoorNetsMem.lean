/- Slices of networks in memory, two cells each. -/
import Derived.Test.YtjdflnnpamjjcaaDoorRows
import Derived.Test.YtjdflnnpamjjcaaDoorMem
import Derived.Test.YtjdflnnpamjjcaaDoorNetMem
namespace Go.Proofs.YtjdflnnpamjjcaaDoor
open Go.RowKit

/-- The networks l lie in memory, behind the slice (a, n). -/
def NetsAt (w : World) (B : Nat) (a : Option Addr) (n : Nat) (l : List (Nat × Int)) : Prop :=
  l.length = n ∧ (0 < n → ∃ b off, a = some ⟨b, off, none⟩ ∧ b < B ∧ ∀ i (h : i < l.length), w.cell? ⟨b, off + i * 2, none⟩ = some (.int .u32 (l[i].1 : Int)) ∧ w.cell? ⟨b, off + i * 2 + 1, none⟩ = some (.int .i64 l[i].2))
theorem NetsAt.nil (w : World) (B : Nat) (a : Option Addr) : NetsAt w B a 0 [] := ⟨rfl, fun h => absurd h (by decide)⟩
theorem NetsAt.below {w w' : World} {B n : Nat} {a : Option Addr} {l : List (Nat × Int)} (h : NetsAt w B a n l) (hb : Below B w w') : NetsAt w' B a n l :=
  ⟨h.1, fun hn => by
    obtain ⟨b, off, e, hlt, hc⟩ := h.2 hn
    exact ⟨b, off, e, hlt, fun i hi => by
      rw [hb.cell (p := ⟨b, off + i * 2, none⟩) hlt, hb.cell (p := ⟨b, off + i * 2 + 1, none⟩) hlt]
      exact hc i hi⟩⟩
theorem NetsAt.more {w : World} {B B' n : Nat} {a : Option Addr} {l : List (Nat × Int)} (h : NetsAt w B a n l) (hB : B ≤ B') : NetsAt w B' a n l :=
  ⟨h.1, fun hn => by
    obtain ⟨b, off, e, hlt, hc⟩ := h.2 hn
    exact ⟨b, off, e, Nat.lt_of_lt_of_le hlt hB, hc⟩⟩
theorem NetsAt.kept {w w' : World} {n : Nat} {a : Option Addr} {l : List (Nat × Int)} (h : NetsAt w w.heap.size a n l) (hb : Below w.heap.size w w') : NetsAt w' w'.heap.size a n l := (h.below hb).more hb.size
end Go.Proofs.YtjdflnnpamjjcaaDoor
