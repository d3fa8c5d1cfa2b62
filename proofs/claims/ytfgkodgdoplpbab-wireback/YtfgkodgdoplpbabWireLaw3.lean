/- The walk of the law WireBack. -/
import Derived.Test.YtfgkodgdoplpbabWireKeep4
import Derived.Test.YtfgkodgdoplpbabWireRef6
import Derived.SizedLaws
namespace Go.Proofs.Ytfgkodgdoplpbab
open Go.RowKit

set_option maxRecDepth 20000 in
set_option maxHeartbeats 4000000 in
theorem law_WireBack (k a b : Int) (s : ByteArray) (w : World) (hb : (-9223372036854775808 ≤ k ∧ k ≤ 9223372036854775807) ∧ (-9223372036854775808 ≤ a ∧ a ≤ 9223372036854775807) ∧ (-9223372036854775808 ≤ b ∧ b ≤ 9223372036854775807)) :
    Calls Try.prog 5 #[rawV k a b s] w fun e w' => e = .returned (.bool true) ∧ Below w.heap.size w w' := by
  have HK := Lib.hid (fun W => keep_message k a b s W hb)
  have hgood := Wr.g_good k a b s
  have hgl := Wr.gb_length k s
  have hgood' := hgood
  rw [← hgl] at hgood'
  have HD := Lib.hid (Wr.dec_enc hgood')
  have HO := Lib.hid (Wr.encOut_zero hgood')
  have hA : Below w.heap.size w (w.alloc (.cells #[.int .i64 k, .int .i64 a, .int .i64 b, .string s] 36)) := (Below.refl _ _).alloc (Nat.le_refl _) _
  have hR := Blk.new w 36 [.int .i64 k, .int .i64 a, .int .i64 b, .string s]
  have r0 := hR.cell 0 rfl
  have r1 := hR.cell 1 rfl
  have r2 := hR.cell 2 rfl
  have r3 := hR.cell 3 rfl
  have HA := Lib.hid hA
  have HGood := Lib.hid hgood
  have Hgl := Lib.hid hgl
  clear hA hR hgood hgood' hgl hb
  unfold rawV at HK ⊢
  generalize Wr.gk k = K at *
  generalize Wr.gs k a = S at *
  generalize Wr.gr k a b = R at *
  generalize Wr.gc k b = C at *
  generalize Wr.gn k s = n at *
  generalize Wr.gb k s = X at *
  go_enter Try.func5, Try.ntmps5
  go_wp2_with fail
  refine (HK.out _).mono ?_
  rintro e w1 ⟨gb, rfl, hb1, hB1⟩
  unfold messV
  have hB1' := HA.out.trans (hB1.mono HA.out.size)
  have hM := Blk.new w1 24 [.int .i64 (K : Int), .int .i64 (S : Int), .int .i64 (R : Int), .int .i64 (C : Int), .slice (some ⟨gb, 0, none⟩) n n]
  have hst := step_alloc w1 (.cells #[.int .i64 (K : Int), .int .i64 (S : Int), .int .i64 (R : Int), .int .i64 (C : Int), .slice (some ⟨gb, 0, none⟩) n n] 24)
  obtain ⟨w2, hw2⟩ : ∃ w2, w2 = w1.alloc (.cells #[.int .i64 (K : Int), .int .i64 (S : Int), .int .i64 (R : Int), .int .i64 (C : Int), .slice (some ⟨gb, 0, none⟩) n n] 24) := ⟨_, rfl⟩
  rw [← hw2] at hM hst
  have hb2 := (hb1.below hst).up hst.size
  have HB2 := Lib.hid (hB1'.trans (hst.mono hB1'.size))
  have HE := Lib.hid (wire_Encode K S R C (some ⟨gb, 0, none⟩) n n X w2 hb2 (fun h => by cases h))
  rw [HGood.out, HO.out] at HE
  unfold messV at HE
  have m0 := hM.cell 0 rfl
  have m1 := hM.cell 1 rfl
  have m2 := hM.cell 2 rfl
  have m3 := hM.cell 3 rfl
  have m4 := hM.cell 4 rfl
  have HM := Lib.hid hM
  have Hb2 := Lib.hid hb2
  have HW2 := Lib.hid hw2
  clear r0 r1 r2 r3 hB1 hB1' hb1 hst hb2 hw2 hM
  go_upto_region 2 with fail
  rw [← HW2.out]
  go_wp2_with fail
  refine HE.out.mono ?_
  rintro e w3 ⟨a3, n3, c3, rfl, ho3, hb3⟩
  have hM3 := HM.out.kept hb3
  have hX3 := (Hb2.out.below hb3).up hb3.size
  have hB3 := HB2.out.trans (hb3.mono HB2.out.size)
  have hy3 := BytesAt.own ho3
  have hn3 := hy3.1
  have ho3' := ho3
  rw [hn3] at ho3'
  have HDc := Lib.hid (wire_Decode a3 n3 c3 _ w3 hy3 (own_cap ho3').1)
  rw [HD.out.1, HD.out.2.1, HD.out.2.2.1, HD.out.2.2.2.1, HD.out.2.2.2.2.1, HD.out.2.2.2.2.2] at HDc
  have HM3 := Lib.hid hM3
  have HX3 := Lib.hid hX3
  have HB3 := Lib.hid hB3
  clear m0 m1 m2 m3 m4 hb3 hM3 hX3 hB3 hy3 hn3 ho3 ho3'
  go_wp2_with fail
  refine HDc.out.mono ?_
  rintro e w4 ⟨a4, n4, c4, rfl, hb4, _, _, hB4⟩
  unfold messV
  have hst := step_alloc w4 (.cells #[.int .i64 (K : Int), .int .i64 (S : Int), .int .i64 (R : Int), .int .i64 (C : Int), .slice a4 n4 c4] 24)
  have hQ := Blk.new w4 24 [.int .i64 (K : Int), .int .i64 (S : Int), .int .i64 (R : Int), .int .i64 (C : Int), .slice a4 n4 c4]
  have hM5 := (HM3.out.kept hB4).kept hst
  have hX5 := ((HX3.out.below hB4).up hB4.size).below hst
  have hb5 := hb4.below hst
  have hB5 := (HB3.out.trans (hB4.mono HB3.out.size)).trans (hst.mono (HB3.out.trans (hB4.mono HB3.out.size)).size)
  obtain ⟨w5, hw5⟩ : ∃ w5, w5 = w4.alloc (.cells #[.int .i64 (K : Int), .int .i64 (S : Int), .int .i64 (R : Int), .int .i64 (C : Int), .slice a4 n4 c4] 24) := ⟨_, rfl⟩
  rw [← hw5] at hQ hM5 hX5 hb5 hB5
  have p0 := hM5.cell 0 rfl
  have p1 := hM5.cell 1 rfl
  have p2 := hM5.cell 2 rfl
  have p3 := hM5.cell 3 rfl
  have p4 := hM5.cell 4 rfl
  have q0 := hQ.cell 0 rfl
  have q1 := hQ.cell 1 rfl
  have q2 := hQ.cell 2 rfl
  have q3 := hQ.cell 3 rfl
  have q4 := hQ.cell 4 rfl
  have k1 := conv_bytes (P := Try.prog) hX5 22 5 9 n Try.underlying22 Try.underlying5 Try.underlying9
  have k2 := conv_bytes (P := Try.prog) hb5 22 5 9 c4 Try.underlying22 Try.underlying5 Try.underlying9
  have HB5 := Lib.hid hB5
  have HW5 := Lib.hid hw5
  clear hst hQ hM5 hX5 hb5 hB5 hw5 hb4 hB4
  go_upto_region 4 with fail
  rw [← HW5.out]
  go_wp2
  go_ret
  exact ⟨by simp, HB5.out⟩
end Go.Proofs.Ytfgkodgdoplpbab
