/- The walk of the law WireDecodes. -/
import Derived.Test.YtfgkodgdoplpbabWireSame
import Derived.Test.YtfgkodgdoplpbabWireRef6
import Derived.SizedLaws
namespace Go.Proofs.Ytfgkodgdoplpbab
open Go.RowKit

set_option maxHeartbeats 1600000 in
theorem law_WireDecodes (a : Option Addr) (n c : Nat) (bs : List UInt8) (w : World) (h : BytesAt w w.heap.size a n bs) (hnc : n ≤ c) (hc : c ≤ reachBytes) :
    Calls Try.prog 4 #[.slice a n c] w fun e w' => e = .returned (.bool true) ∧ Below w.heap.size w w' := by
  have hn : n ≤ 140737488355328 := by unfold reachBytes at hc; omega
  have HD := Lib.hid (wire_Decode a n c bs w h hnc)
  have HR := Lib.hid (fun W hb => ref_WireOf a n c bs W hb hnc hn)
  have Hb := Lib.hid h
  clear h hc hn
  obtain ⟨K, hK⟩ : ∃ K, Wr.dk bs = K := ⟨_, rfl⟩
  obtain ⟨S, hS⟩ : ∃ S, Wr.ds bs = S := ⟨_, rfl⟩
  obtain ⟨R, hR⟩ : ∃ R, Wr.dr bs = R := ⟨_, rfl⟩
  obtain ⟨C, hC⟩ : ∃ C, Wr.dc bs = C := ⟨_, rfl⟩
  obtain ⟨X, hX⟩ : ∃ X, Wr.db bs = X := ⟨_, rfl⟩
  obtain ⟨E, hE⟩ : ∃ E, Wr.decErr bs = E := ⟨_, rfl⟩
  rw [hK, hS, hR, hC, hX, hE] at HD HR
  clear hK hS hR hC hX hE
  go_enter Try.func4, Try.ntmps4
  go_wp2_with fail
  refine HD.out.mono ?_
  rintro e w1 ⟨a1, n1, c1, rfl, hb1, _, _, hB1⟩
  unfold messV
  have hP1 := Blk.new w1 24 [.int .i64 K, .int .i64 S, .int .i64 R, .int .i64 C, .slice a1 n1 c1]
  have hA1 : Below w1.heap.size w1 (w1.alloc (.cells #[.int .i64 K, .int .i64 S, .int .i64 R, .int .i64 C, .slice a1 n1 c1] 24)) := (Below.refl _ _).alloc (Nat.le_refl _) _
  have Hb1 := Lib.hid ((hb1.below hA1).up hA1.size)
  have hbA := hB1.trans (hA1.mono hB1.size)
  have HR1 := Lib.hid (HR.out _ ((Hb.out.below hbA).up hbA.size))
  have HP1 := Lib.hid hP1
  have HbA := Lib.hid hbA
  have hzA : w1.heap.size < (w1.alloc (.cells #[.int .i64 K, .int .i64 S, .int .i64 R, .int .i64 C, .slice a1 n1 c1] 24)).heap.size := by simp
  have HzA := Lib.hid hzA
  clear hb1 hB1 hP1 hA1 hbA hzA
  go_wp2_with fail
  refine HR1.out.mono ?_
  rintro e w2 ⟨a2, n2, c2, rfl, hb2, _, _, hB2⟩
  unfold messV
  have hA2 : Below w2.heap.size w2 (w2.alloc (.cells #[.int .i64 K, .int .i64 S, .int .i64 R, .int .i64 C, .slice a2 n2 c2] 24)) := (Below.refl _ _).alloc (Nat.le_refl _) _
  have hP2 := (HP1.out.kept hB2).kept hA2
  have hQ2 := Blk.new w2 24 [.int .i64 K, .int .i64 S, .int .i64 R, .int .i64 C, .slice a2 n2 c2]
  obtain ⟨p0, p1, p2, p3, p4⟩ := hP2.facts5.1
  obtain ⟨q0, q1, q2, q3, q4⟩ := hQ2.facts5.1
  have hbz : Below w.heap.size w (w2.alloc (.cells #[.int .i64 K, .int .i64 S, .int .i64 R, .int .i64 C, .slice a2 n2 c2] 24)) := HbA.out.trans ((hB2.trans (hA2.mono hB2.size)).mono HbA.out.size)
  have hb1' := ((Hb1.out.below hB2).up hB2.size).below hA2
  have HSP := Lib.hid (same_message K S R C n1 n2 c1 c2 w2.heap.size w2.heap.size a1 a2 X _ hb1' (hb2.below hA2) hA2.size hA2.size)
  unfold messV at HSP
  have Hbz := Lib.hid hbz
  clear hb2 hB2 hA2 hbz hP2 hQ2 hb1'
  go_wp2_with fail
  refine HSP.out.mono ?_
  rintro e w3 ⟨rfl, hB3⟩
  have hB4 := Hbz.out.trans (hB3.mono Hbz.out.size)
  go_wp2
  go_ret
  exact ⟨by simp, hB4⟩
end Go.Proofs.Ytfgkodgdoplpbab
