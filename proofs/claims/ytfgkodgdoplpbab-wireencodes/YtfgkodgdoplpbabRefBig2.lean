/- What the reference's big has made, as text. -/
import Derived.Test.YtfgkodgdoplpbabRefBig
import Derived.Test.YtfgkodgdoplpbabConv
import Derived.Deep.RegionWith
namespace Go.Proofs.Ytfgkodgdoplpbab
open Go.RowKit

theorem alloc_bytes (w : World) (n m : Nat) : BytesAt (w.alloc (bigObj n m)) (w.alloc (bigObj n m)).heap.size (some ⟨w.heap.size, 0, none⟩) m (Sl.beL n m) := by
  refine ⟨Sl.beL_length n m, fun _ => ⟨w.heap.size, 0, rfl, by simp, fun i hi => ?_⟩⟩
  unfold bigObj
  rw [Nat.zero_add, cell_of_row _ _ i _ _ _ (heap_alloc_last w _)]
  rw [List.getElem?_toArray, bcells_get _ i hi]

theorem big_text (w : World) (n m : Nat) : (convert 22 9 (.slice (some ⟨w.heap.size, 0, none⟩) m m)).run Try.prog (w.alloc (bigObj n m)).drew = .ok (.string (strOf (Sl.beL n m))) (w.alloc (bigObj n m)).drew :=
  conv_bytes (P := Try.prog) (w := (w.alloc (bigObj n m)).drew) (B := (w.alloc (bigObj n m)).heap.size) (alloc_bytes w n m) 22 5 9 m Try.underlying22 Try.underlying5 Try.underlying9
theorem big_text2 (w : World) (n m n' m' : Nat) : (convert 22 9 (.slice (some ⟨w.heap.size, 0, none⟩) m m)).run Try.prog ((w.alloc (bigObj n m)).alloc (bigObj n' m')).drew = .ok (.string (strOf (Sl.beL n m))) ((w.alloc (bigObj n m)).alloc (bigObj n' m')).drew :=
  conv_bytes (P := Try.prog) (w := ((w.alloc (bigObj n m)).alloc (bigObj n' m')).drew) (B := (w.alloc (bigObj n m)).heap.size) ((alloc_bytes w n m).below (Below.drew ((Below.refl _ (w.alloc (bigObj n m))).alloc (Nat.le_refl _) (bigObj n' m')))) 22 5 9 m Try.underlying22 Try.underlying5 Try.underlying9
theorem big_text3 (w : World) (n m n' m' : Nat) : (convert 22 9 (.slice (some ⟨w.heap.size + 1, 0, none⟩) m' m')).run Try.prog ((w.alloc (bigObj n m)).alloc (bigObj n' m')).drew = .ok (.string (strOf (Sl.beL n' m'))) ((w.alloc (bigObj n m)).alloc (bigObj n' m')).drew := by
  have h := big_text (w.alloc (bigObj n m)) n' m'
  rw [show (w.alloc (bigObj n m)).heap.size = w.heap.size + 1 by simp] at h
  exact h
end Go.Proofs.Ytfgkodgdoplpbab
