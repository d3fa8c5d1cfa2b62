/- The contract of the laws' SamePacket at two packets that read the same. -/
import Derived.Test.YtfipnkledifilaaPackSame
namespace Go.Proofs.Ytfipnkledifilaa
open Go.RowKit

set_option maxHeartbeats 1600000 in
theorem keep_SamePacket (s d n m c c' B B' : Nat) (a b : Option Addr) (bs : List UInt8) (w : World) (h : BytesAt w B a n bs) (h' : BytesAt w B' b m bs) (hB : B ≤ w.heap.size) (hB' : B' ≤ w.heap.size) :
    Calls Try.prog 36 #[packV s d a n c, packV s d b m c'] w fun e w' => e = .returned (.bool true) ∧ Below w.heap.size w w' := by
  obtain ⟨hA, g1, g2⟩ := two_packs w (.int .u32 (s : Int)) (.int .u32 (d : Int)) (.slice a n c) (.int .u32 (s : Int)) (.int .u32 (d : Int)) (.slice b m c')
  obtain ⟨w0, hw0⟩ : ∃ w0, w0 = (w.alloc (.cells #[.int .u32 (s : Int), .int .u32 (d : Int), .slice a n c] 57)).alloc (.cells #[.int .u32 (s : Int), .int .u32 (d : Int), .slice b m c'] 57) := ⟨_, rfl⟩
  rw [← hw0] at hA g1 g2
  have Hb1 := (h.up hB).below hA
  have Hb2 := (h'.up hB').below hA
  have k1 := conv_bytes (P := Try.prog) Hb1 55 5 9 c Try.underlying55 Try.underlying5 Try.underlying9
  have k2 := conv_bytes (P := Try.prog) Hb2 55 5 9 c' Try.underlying55 Try.underlying5 Try.underlying9
  obtain ⟨p0, p1, p2⟩ := pack_cells g1 (Below.refl _ _)
  obtain ⟨q0, q1, q2⟩ := pack_cells g2 (Below.refl _ _)
  have HA := Lib.hid hA
  have HW := Lib.hid hw0
  clear g1 g2 h h' hA Hb1 Hb2 hw0
  unfold packV
  go_enter Try.func36, Try.ntmps36
  go_upto_region 1 with fail
  rw [← HW.out]
  go_wp2
  go_ret
  exact ⟨by simp, HA.out⟩
end Go.Proofs.Ytfipnkledifilaa
