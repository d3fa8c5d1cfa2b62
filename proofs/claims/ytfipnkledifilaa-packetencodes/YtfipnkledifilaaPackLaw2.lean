/- The walk of the law PacketEncodes. -/
import Derived.Test.YtfipnkledifilaaPackSame
import Derived.Test.YtfipnkledifilaaPackRef1
import Derived.SizedLaws
namespace Go.Proofs.Ytfipnkledifilaa
open Go.RowKit

set_option maxHeartbeats 1600000 in
theorem law_PacketEncodes (s d n c : Nat) (a : Option Addr) (bs : List UInt8) (w : World) (hs : s < 4294967296) (hd : d < 4294967296) (h : BytesAt w w.heap.size a n bs) (hnil : a = none → n = 0 ∧ c = 0) :
    Calls Try.prog 10 #[packV s d a n c] w fun e w' => e = .returned (.bool true) ∧ Below w.heap.size w w' := by
  obtain ⟨w0, hw0⟩ : ∃ w0, w0 = w.alloc (.cells #[.int .u32 (s : Int), .int .u32 (d : Int), .slice a n c] 57) := ⟨_, rfl⟩
  have hA : Below w.heap.size w w0 := by rw [hw0]; exact (Below.refl _ _).alloc (Nat.le_refl _) _
  have hP : w0.heap[w.heap.size]? = some (.cells #[.int .u32 (s : Int), .int .u32 (d : Int), .slice a n c] 57 (0, 0)) := by rw [hw0]; exact heap_alloc_last w _
  have hz : w0.heap.size = w.heap.size + 1 := by rw [hw0]; simp
  obtain ⟨c0, c1, c2⟩ := pack_cells hP (Below.refl _ _)
  have HC := Lib.hid (packet_Check s d n c a w0)
  have HP := Lib.hid hP
  have HA := Lib.hid hA
  have HW := Lib.hid hw0
  have Hz := Lib.hid hz
  have HE := Lib.hid (fun W hW => packet_Encode s d n c a bs W hs hd ((h.below (hA.trans ((show Below w0.heap.size w0 W from hW).mono (by omega)))).up (hA.trans (hW.mono (by omega))).size) hnil)
  have HR := Lib.hid (fun W hW => ref_PacketBytes s d n c a bs W hs hd ((h.below (hA.trans ((show Below w0.heap.size w0 W from hW).mono (by omega)))).up (hA.trans (hW.mono (by omega))).size))
  clear h hnil hA hP hw0 hz
  unfold packV at HC HE HR ⊢
  generalize Pk.encErr n = E at *
  generalize Pk.encOut s d bs = O at *
  go_enter Try.func10, Try.ntmps10
  go_upto_region 1 with fail
  rw [← HW.out]
  go_wp2_with fail
  refine HC.out.mono ?_
  rintro e w1 ⟨rfl, hb1⟩
  clear c0 c1 c2
  obtain ⟨c0, c1, c2⟩ := pack_cells HP.out hb1
  go_wp2_with fail
  refine (HE.out _ hb1).mono ?_
  rintro e w2 ⟨a2, n2, cc2, rfl, ho2, hb2⟩
  have hB2 := hb1.trans (hb2.mono hb1.size)
  have o2 := BytesAt.own ho2
  clear c0 c1 c2 ho2
  obtain ⟨c0, c1, c2⟩ := pack_cells HP.out hB2
  go_wp2_with fail
  refine (HR.out _ hB2).mono ?_
  rintro e w3 ⟨a3, n3, cc3, rfl, o3, hn3, hb3⟩
  have hB3 := HA.out.trans ((hB2.trans (hb3.mono hB2.size)).mono (by have := Hz.out; omega))
  have o2' := o2.below hb3
  clear c0 c1 c2 o2 hn3 hb1 hb2 hb3 hB2
  go_wp2_with (go_at_call 31; refine (same_bytes _ _ _ _ _ _ _ _ _ _ o2' o3).mono ?_; rintro e w' ⟨rfl, rfl⟩)
  go_ret
  exact ⟨by simp, hB3⟩
end Go.Proofs.Ytfipnkledifilaa
