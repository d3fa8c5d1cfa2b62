/- The walk of the law WireTurns. -/
import Derived.Test.YtfgkodgdoplpbabWireKeep4
import Derived.Test.YtfgkodgdoplpbabWireRef6
import Derived.Test.YtfgkodgdoplpbabKeepTurned
import Derived.SizedLaws
namespace Go.Proofs.Ytfgkodgdoplpbab
open Go.RowKit

set_option maxRecDepth 20000 in
set_option maxHeartbeats 4000000 in
theorem law_WireTurns (k a b : Int) (s : ByteArray) (at_ by_ : Int) (w : World) (hb : (-9223372036854775808 ≤ k ∧ k ≤ 9223372036854775807) ∧ (-9223372036854775808 ≤ a ∧ a ≤ 9223372036854775807) ∧ (-9223372036854775808 ≤ b ∧ b ≤ 9223372036854775807))
    (t0 : -9223372036854775808 ≤ at_) (t1 : at_ ≤ 9223372036854775807) (y0 : 0 ≤ by_) (y1 : by_ ≤ 255) :
    Calls Try.prog 6 #[rawV k a b s, .int .i64 at_, .int .u8 by_] w fun e w' => e = .returned (.bool true) ∧ Below w.heap.size w w' := by
  obtain ⟨B, rfl⟩ : ∃ B : UInt8, by_ = (B.toNat : Int) := ⟨UInt8.ofNat by_.toNat, by rw [UInt8.toNat_ofNat']; omega⟩
  have HK := Lib.hid (fun W => keep_message k a b s W hb)
  have hgood := Wr.g_good k a b s
  have hgl := Wr.gb_length k s
  have hgood' := hgood
  rw [← hgl] at hgood'
  have HO := Lib.hid (Wr.encOut_zero hgood')
  have HL := Lib.hid (Wr.g_len k a b s)
  have hA : Below w.heap.size w (w.alloc (.cells #[.int .i64 k, .int .i64 a, .int .i64 b, .string s] 36)) := (Below.refl _ _).alloc (Nat.le_refl _) _
  have hR := Blk.new w 36 [.int .i64 k, .int .i64 a, .int .i64 b, .string s]
  have r0 := hR.cell 0 rfl
  have r1 := hR.cell 1 rfl
  have r2 := hR.cell 2 rfl
  have r3 := hR.cell 3 rfl
  have HA := Lib.hid hA
  have HGood := Lib.hid hgood
  clear hA hR hgood hgood' hgl hb
  unfold rawV at HK ⊢
  generalize Wr.gk k = K at *
  generalize Wr.gs k a = S at *
  generalize Wr.gr k a b = R at *
  generalize Wr.gc k b = C at *
  generalize Wr.gn k s = n at *
  generalize Wr.gb k s = X at *
  generalize Wr.enc K S R C X = E at *
  go_enter Try.func6, Try.ntmps6
  go_wp2_with fail
  refine (HK.out _).mono ?_
  rintro e w1 ⟨gb, rfl, hb1, hB1⟩
  have HB1 := Lib.hid (HA.out.trans (hB1.mono HA.out.size))
  have HE := Lib.hid (wire_Encode K S R C (some ⟨gb, 0, none⟩) n n X w1 hb1 (fun h => by cases h))
  rw [HGood.out, HO.out] at HE
  clear r0 r1 r2 r3 hB1 hb1
  go_wp2_with fail
  refine HE.out.mono ?_
  rintro e w2 ⟨a2, n2, c2, rfl, ho2, hb2⟩
  have o2 := BytesAt.own ho2
  have hn2 : E.length = n2 := o2.1
  rw [hn2] at ho2
  have hlen := HL.out
  rw [hn2] at hlen
  have HT := Lib.hid (keep_Turned a2 n2 c2 _ at_ B w2 o2 (own_none ho2) (by omega) (by omega) t0 t1)
  have hlt : (turned E at_ B).length = n2 := by rw [turned_length, hn2]
  have HB2 := Lib.hid (HB1.out.trans (hb2.mono HB1.out.size))
  have hd30 : decide ((n2 : Int) < 30) = false := by simp; omega
  have hd30' : ¬ n2 < 30 := by omega
  clear o2 ho2 hb2 hn2 hlen
  generalize turned E at_ B = Y at *
  have Hlt := Lib.hid hlt
  go_wp2_with fail
  refine HT.out.mono ?_
  rintro e w3 ⟨a3, n3, c3, rfl, ho3, hb3⟩
  have o3 := BytesAt.own ho3
  obtain rfl : n2 = n3 := by rw [← o3.1, hlt]
  rw [hlt] at ho3
  have HDe := Lib.hid (wire_Decode a3 n2 c3 Y w3 o3 (own_cap ho3).1)
  have Ho3 := Lib.hid o3
  have HB3 := Lib.hid (HB2.out.trans (hb3.mono HB2.out.size))
  clear ho3 hb3 o3 hlt
  go_wp2_with fail
  refine HDe.out.mono ?_
  rintro e w4 ⟨a4, n4, c4, rfl, hb4, hn4, _, hB4⟩
  unfold messV
  have HB4 := Lib.hid (HB3.out.trans (hB4.mono HB3.out.size))
  have Ho4 := Lib.hid ((Ho3.out.below hB4).up hB4.size)
  by_cases hE : Wr.decErr Y = 0
  · have hed := Wr.enc_dec hE
    have hlb : (Wr.db Y).length = n4 := hb4.1
    rw [hlb] at hed
    rw [hE]
    generalize Wr.dk Y = K4 at *
    generalize Wr.ds Y = S4 at *
    generalize Wr.dr Y = R4 at *
    generalize Wr.dc Y = C4 at *
    generalize Wr.db Y = X4 at *
    obtain ⟨w5, hw5⟩ : ∃ w5, w5 = w4.alloc (.cells #[.int .i64 K4, .int .i64 S4, .int .i64 R4, .int .i64 C4, .slice a4 n4 c4] 24) := ⟨_, rfl⟩
    have hst : Below w4.heap.size w4 w5 := by rw [hw5]; exact step_alloc _ _
    have hP5 : Blk w5 w4.heap.size 24 [.int .i64 K4, .int .i64 S4, .int .i64 R4, .int .i64 C4, .slice a4 n4 c4] := by rw [hw5]; exact Blk.new w4 _ _
    obtain ⟨q0, q1, q2, q3, q4⟩ := hP5.facts5.1
    have HE5 := Lib.hid (wire_Encode K4 S4 R4 C4 a4 n4 c4 X4 w5 ((hb4.below hst).up hst.size) hn4)
    rw [hed.1, hed.2] at HE5
    unfold messV at HE5
    have HW5 := Lib.hid hw5
    have Ho5 := Lib.hid ((Ho4.out.below hst).up hst.size)
    have HB5 := Lib.hid (HB4.out.trans (hst.mono HB4.out.size))
    clear hb4 hn4 hB4 hst hP5 hw5 hed hE hlb
    rw [show ((0 : Nat) : Int) = (0 : Int) from rfl]
    go_upto_region 4 with fail
    rw [← HW5.out]
    go_wp2_with fail
    refine HE5.out.mono ?_
    rintro e w6 ⟨a6, n6, c6, rfl, ho6, hb6⟩
    have o6 := BytesAt.own ho6
    have o3 := Ho5.out.below hb6
    have k1 := conv_bytes (P := Try.prog) o3 22 5 9 c3 Try.underlying22 Try.underlying5 Try.underlying9
    have k2 := conv_bytes (P := Try.prog) o6 22 5 9 c6 Try.underlying22 Try.underlying5 Try.underlying9
    have hB6 := Lib.hid (HB5.out.trans (hb6.mono HB5.out.size))
    clear o6 o3 ho6 hb6 q0 q1 q2 q3 q4
    go_wp2
    go_ret
    exact ⟨by simp, hB6.out⟩
  · have hx := Wr.dec_err Y hE
    rw [hx.1, hx.2.1, hx.2.2.1, hx.2.2.2.1]
    rw [hx.2.2.2.2] at hb4
    obtain rfl : n4 = 0 := hb4.1.symm
    have hne : ¬ (Wr.decErr Y : Int) = 0 := by omega
    obtain ⟨w5, hw5⟩ : ∃ w5, w5 = w4.alloc (.cells #[.int .i64 0, .int .i64 0, .int .i64 0, .int .i64 0, .slice a4 0 c4] 24) := ⟨_, rfl⟩
    have hst : Below w4.heap.size w4 w5 := by rw [hw5]; exact step_alloc _ _
    have hP5 : Blk w5 w4.heap.size 24 [.int .i64 0, .int .i64 0, .int .i64 0, .int .i64 0, .slice a4 0 c4] := by rw [hw5]; exact Blk.new w4 _ _
    obtain ⟨q0, q1, q2, q3, q4⟩ := hP5.facts5.1
    have HW5 := Lib.hid hw5
    have HB5 := Lib.hid (HB4.out.trans (hst.mono HB4.out.size))
    clear hb4 hn4 hB4 hst hP5 hw5 hx hE
    generalize Wr.decErr Y = F at *
    go_upto_region 4 with fail
    rw [← HW5.out]
    go_wp2
    go_ret
    exact ⟨rfl, HB5.out⟩
end Go.Proofs.Ytfgkodgdoplpbab
