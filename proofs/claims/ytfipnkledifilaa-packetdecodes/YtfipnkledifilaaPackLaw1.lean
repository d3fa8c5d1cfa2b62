/- The walk of the law PacketDecodes. -/
import Derived.Test.YtfipnkledifilaaPackSame
import Derived.Test.YtfipnkledifilaaPackRef2
import Derived.SizedLaws
namespace Go.Proofs.Ytfipnkledifilaa
open Go.RowKit

set_option maxHeartbeats 1600000 in
theorem law_PacketDecodes (a : Option Addr) (n c : Nat) (bs : List UInt8) (w : World) (h : BytesAt w w.heap.size a n bs) (hnc : n ≤ c) (_hc : c ≤ reachBytes) :
    Calls Try.prog 11 #[.slice a n c] w fun e w' => e = .returned (.bool true) ∧ Below w.heap.size w w' := by
  have HD := Lib.hid (packet_Decode a n c bs w h hnc)
  have Hb := Lib.hid h
  clear h
  obtain ⟨S, hS⟩ : ∃ S, Pk.src bs = S := ⟨_, rfl⟩
  obtain ⟨D, hD⟩ : ∃ D, Pk.dst bs = D := ⟨_, rfl⟩
  obtain ⟨X, hX⟩ : ∃ X, Pk.data bs = X := ⟨_, rfl⟩
  obtain ⟨E, hE⟩ : ∃ E, Pk.decErr bs = E := ⟨_, rfl⟩
  rw [hS, hD, hX, hE] at HD
  have HS := Lib.hid hS
  have HDd := Lib.hid hD
  have HX := Lib.hid hX
  have HE := Lib.hid hE
  clear hS hD hX hE
  go_enter Try.func11, Try.ntmps11
  go_wp2_with fail
  refine HD.out.mono ?_
  rintro e w1 ⟨a1, n1, c1, rfl, hb1, hn1, hc1, hB1⟩
  unfold packV
  have hz1 := hB1.size
  have hP1 := heap_alloc_last w1 (.cells #[.int .u32 (S : Int), .int .u32 (D : Int), .slice a1 n1 c1] 57)
  have hA1 : Below w1.heap.size w1 (w1.alloc (.cells #[.int .u32 (S : Int), .int .u32 (D : Int), .slice a1 n1 c1] 57)) := (Below.refl _ _).alloc (Nat.le_refl _) _
  have Hb1 := Lib.hid (hb1.below hA1)
  have hbA := hB1.trans (hA1.mono hz1)
  have HR := Lib.hid (ref_PacketOf a n c bs (w1.alloc (.cells #[.int .u32 (S : Int), .int .u32 (D : Int), .slice a1 n1 c1] 57)) ((Hb.out.below hbA).up hbA.size) hnc)
  rw [HS.out, HDd.out, HX.out, HE.out] at HR
  have HP1 := Lib.hid hP1
  have HbA := Lib.hid hbA
  have hzA : w1.heap.size < (w1.alloc (.cells #[.int .u32 (S : Int), .int .u32 (D : Int), .slice a1 n1 c1] 57)).heap.size := by simp
  have HzA := Lib.hid hzA
  clear hb1 hn1 hc1 hB1 hP1 hA1 hbA hzA
  go_wp2_with fail
  refine HR.out.mono ?_
  rintro e w2 ⟨a2, n2, c2, rfl, hb2, hn2, hc2, hB2⟩
  unfold packV
  have hA2 : Below w2.heap.size w2 (w2.alloc (.cells #[.int .u32 (S : Int), .int .u32 (D : Int), .slice a2 n2 c2] 57)) := (Below.refl _ _).alloc (Nat.le_refl _) _
  have hz2 := hB2.size
  obtain ⟨p0, p1, p2⟩ := pack_cells HP1.out (hB2.trans (hA2.mono hz2))
  obtain ⟨q0, q1, q2⟩ := pack_cells (heap_alloc_last w2 (.cells #[.int .u32 (S : Int), .int .u32 (D : Int), .slice a2 n2 c2] 57)) (Below.refl _ _)
  have hbz : Below w.heap.size w (w2.alloc (.cells #[.int .u32 (S : Int), .int .u32 (D : Int), .slice a2 n2 c2] 57)) := HbA.out.trans ((hB2.trans (hA2.mono hz2)).mono HbA.out.size)
  have HSP := Lib.hid (same_packet S D n1 n2 c1 c2 w1.heap.size w2.heap.size a1 a2 X (w2.alloc (.cells #[.int .u32 (S : Int), .int .u32 (D : Int), .slice a2 n2 c2] 57)) ((Hb1.out.below (hB2.mono (Nat.le_of_lt HzA.out))).below (hA2.mono (by have := HzA.out; omega))) (hb2.below hA2) (by have := HzA.out; simp; omega) (by simp))
  unfold packV at HSP
  have Hbz := Lib.hid hbz
  clear hb2 hn2 hc2 hB2 hA2 hz2 hbz
  go_wp2_with fail
  refine HSP.out.mono ?_
  rintro e w3 ⟨rfl, hB3⟩
  have hB4 := Hbz.out.trans (hB3.mono Hbz.out.size)
  go_wp2
  go_ret
  exact ⟨by simp, hB4⟩
end Go.Proofs.Ytfipnkledifilaa
