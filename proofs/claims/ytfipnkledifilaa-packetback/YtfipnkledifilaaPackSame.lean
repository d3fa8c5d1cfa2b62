/- The contracts of the laws' samePacket and SamePacket at two packets that read the same. -/
import Derived.Test.YtfipnkledifilaaPackCode4
import Derived.Test.YtfipnkledifilaaSame
namespace Go.Proofs.Ytfipnkledifilaa
open Go.RowKit

/-- Two packets in two blocks that a call has just made. -/
theorem two_packs (w : World) (x y z u v r : Value) :
    Below w.heap.size w ((w.alloc (.cells #[x, y, z] 57)).alloc (.cells #[u, v, r] 57)) ∧
    ((w.alloc (.cells #[x, y, z] 57)).alloc (.cells #[u, v, r] 57)).heap[w.heap.size]? = some (.cells #[x, y, z] 57 (0, 0)) ∧
    ((w.alloc (.cells #[x, y, z] 57)).alloc (.cells #[u, v, r] 57)).heap[w.heap.size + 1]? = some (.cells #[u, v, r] 57 (0, 0)) := by
  refine ⟨((Below.refl _ _).alloc (Nat.le_refl _) _).alloc (by simp) _, ?_, ?_⟩
  · rw [Below.heap_alloc _ _ _ (by simp)]; exact heap_alloc_last w _
  · have := heap_alloc_last (w.alloc (.cells #[x, y, z] 57)) (.cells #[u, v, r] 57)
    rw [show (w.alloc (.cells #[x, y, z] 57)).heap.size = w.heap.size + 1 by simp] at this
    exact this

set_option maxHeartbeats 1600000 in
theorem same_packet (s d n m c c' B B' : Nat) (a b : Option Addr) (bs : List UInt8) (w : World) (h : BytesAt w B a n bs) (h' : BytesAt w B' b m bs) (hB : B ≤ w.heap.size) (hB' : B' ≤ w.heap.size) :
    Calls Try.prog 34 #[packV s d a n c, packV s d b m c'] w fun e w' => e = .returned (.bool true) ∧ Below w.heap.size w w' := by
  obtain ⟨hA, g1, g2⟩ := two_packs w (.int .u32 (s : Int)) (.int .u32 (d : Int)) (.slice a n c) (.int .u32 (s : Int)) (.int .u32 (d : Int)) (.slice b m c')
  have Hb1 := Lib.hid ((h.up hB).below hA)
  have Hb2 := Lib.hid ((h'.up hB').below hA)
  obtain ⟨p0, p1, p2⟩ := pack_cells g1 (Below.refl _ _)
  obtain ⟨q0, q1, q2⟩ := pack_cells g2 (Below.refl _ _)
  have HA := Lib.hid hA
  clear g1 g2 h h' hA
  unfold packV
  go_enter Try.func34, Try.ntmps34
  go_wp2_with (go_at_call 31; refine (same_bytes _ _ _ _ _ _ _ _ _ _ Hb1.out Hb2.out).mono ?_; rintro e w' ⟨rfl, rfl⟩)
  go_ret
  exact ⟨by simp, HA.out⟩
end Go.Proofs.Ytfipnkledifilaa
