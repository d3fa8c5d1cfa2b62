/- The walk of the law PacketTurns. -/
import Derived.Test.YtfipnkledifilaaKeepPack
import Derived.Test.YtfipnkledifilaaKeepTurned
import Derived.Test.YtfipnkledifilaaPackCode5
import Derived.Test.YtfipnkledifilaaPackSame2
import Derived.SizedLaws
namespace Go.Proofs.Ytfipnkledifilaa
open Go.RowKit

set_option maxRecDepth 20000 in
set_option maxHeartbeats 4000000 in
theorem law_PacketTurns (k a b : Int) (s : ByteArray) (at_ by_ : Int) (w : World) (hb : (-9223372036854775808 ≤ k ∧ k ≤ 9223372036854775807) ∧ (-9223372036854775808 ≤ a ∧ a ≤ 9223372036854775807) ∧ (-9223372036854775808 ≤ b ∧ b ≤ 9223372036854775807))
    (t0 : -9223372036854775808 ≤ at_) (t1 : at_ ≤ 9223372036854775807) (y0 : 0 ≤ by_) (y1 : by_ ≤ 255) :
    Calls Try.prog 14 #[rawV k a b s, .int .i64 at_, .int .u8 by_] w fun e w' => e = .returned (.bool true) ∧ Below w.heap.size w w' := by
  obtain ⟨_, ⟨a0, a1⟩, b0, b1⟩ := hb
  obtain ⟨B, rfl⟩ : ∃ B : UInt8, by_ = (B.toNat : Int) := ⟨UInt8.ofNat by_.toNat, by rw [UInt8.toNat_ofNat']; omega⟩
  have hlen := Pk.rawB_length s
  have lS := Pk.rawS_lt 0 a
  have lD := Pk.rawD_lt 0 b
  have HEn := Lib.hid (Pk.enc_length (Pk.rawS 0 a) (Pk.rawD 0 b) (Pk.rawB s))
  have HK := Lib.hid (fun W => keep_Packet 0 (by omega) k a b s W a0 a1 b0 b1)
  obtain ⟨w0, hw0⟩ : ∃ w0, w0 = w.alloc (.cells #[.int .i64 k, .int .i64 a, .int .i64 b, .string s] 37) := ⟨_, rfl⟩
  have hA : Below w.heap.size w w0 := by rw [hw0]; exact (Below.refl _ _).alloc (Nat.le_refl _) _
  have hP : w0.heap[w.heap.size]? = some (.cells #[.int .i64 k, .int .i64 a, .int .i64 b, .string s] 37 (0, 0)) := by rw [hw0]; exact heap_alloc_last w _
  have r0 : w0.cell? ⟨w.heap.size, 0, none⟩ = some (.int .i64 k) := by rw [cell_of_row _ _ _ _ _ _ hP]; rfl
  have r1 : w0.cell? ⟨w.heap.size, 1, none⟩ = some (.int .i64 a) := by rw [cell_of_row _ _ _ _ _ _ hP]; rfl
  have r2 : w0.cell? ⟨w.heap.size, 2, none⟩ = some (.int .i64 b) := by rw [cell_of_row _ _ _ _ _ _ hP]; rfl
  have r3 : w0.cell? ⟨w.heap.size, 3, none⟩ = some (.string s) := by rw [cell_of_row _ _ _ _ _ _ hP]; rfl
  have HA := Lib.hid hA
  have HW := Lib.hid hw0
  clear hA hP hw0
  unfold rawV at HK ⊢
  generalize Pk.rawS 0 a = S at *
  generalize Pk.rawD 0 b = D at *
  generalize Pk.rawB s = X at *
  go_enter Try.func14, Try.ntmps14
  go_upto_region 1 with fail
  rw [← HW.out]
  go_wp2_with fail
  refine (HK.out _).mono ?_
  rintro e w1 ⟨ad, m, c, rfl, hb1, hn1, hB1⟩
  obtain rfl : X.length = m := hb1.1
  have HE := Lib.hid (packet_Encode S D X.length c ad X w1 lS lD hb1 hn1)
  rw [show Pk.encErr X.length = 0 by unfold Pk.encErr; rw [if_neg (by omega)], show Pk.encOut S D X = Pk.enc S D X by unfold Pk.encOut; rw [if_neg (by omega)]] at HE
  have HB1 := Lib.hid (HA.out.trans (hB1.mono HA.out.size))
  clear r0 r1 r2 r3 hb1 hn1 hB1
  go_wp2_with fail
  refine HE.out.mono ?_
  rintro e w2 ⟨a2, n2, c2, rfl, ho2, hb2⟩
  have o2 := BytesAt.own ho2
  have hn2 : (Pk.enc S D X).length = n2 := o2.1
  rw [hn2] at ho2
  have hl2 : n2 = 20 + X.length := by rw [← hn2]; exact HEn.out
  have hcap2 := own_cap ho2
  have HT := Lib.hid (keep_Turned a2 n2 c2 _ at_ B w2 o2 (own_none ho2) (by omega) (by omega) t0 t1)
  have hlt : (turned (Pk.enc S D X) at_ B).length = n2 := by rw [turned_length, hn2]
  have HB2 := Lib.hid (HB1.out.trans (hb2.mono HB1.out.size))
  have hn20 : 20 ≤ n2 := by omega
  have hd20 : decide ((n2 : Int) < 20) = false := by simp; omega
  have Hcap2 := Lib.hid hcap2
  clear o2 ho2 hb2 hn2 hl2 hcap2
  generalize turned (Pk.enc S D X) at_ B = C at *
  have Hlt := Lib.hid hlt
  go_wp2_with fail
  refine HT.out.mono ?_
  rintro e w3 ⟨a3, n3, c3, rfl, ho3, hb3⟩
  have o3 := BytesAt.own ho3
  obtain rfl : n2 = n3 := by rw [← o3.1, hlt]
  rw [hlt] at ho3
  have HDe := Lib.hid (packet_Decode a3 n2 c3 C w3 o3 (own_cap ho3).1)
  have Ho3 := Lib.hid o3
  have HB3 := Lib.hid (HB2.out.trans (hb3.mono HB2.out.size))
  clear ho3 hb3 o3 hlt
  go_wp2_with fail
  refine HDe.out.mono ?_
  rintro e w4 ⟨a4, n4, c4, rfl, hb4, hn4, hc4, hB4⟩
  unfold packV
  have HB4 := Lib.hid (HB3.out.trans (hB4.mono HB3.out.size))
  have Ho4 := Lib.hid (Ho3.out.below hB4)
  have hz34 := hB4.size
  by_cases hE : Pk.decErr C = 0
  · have hok := Pk.dec_ok C hE
    have hs4 : Pk.src C < 4294967296 := by unfold Pk.src; rw [if_pos hE]; exact Pk.a4_lt _ _
    have hd4 : Pk.dst C < 4294967296 := by unfold Pk.dst; rw [if_pos hE]; exact Pk.a4_lt _ _
    rw [hE]
    generalize Pk.src C = S4 at *
    generalize Pk.dst C = D4 at *
    generalize Pk.data C = X4 at *
    obtain ⟨w5, hw5⟩ : ∃ w5, w5 = w4.alloc (.cells #[.int .u32 (S4 : Int), .int .u32 (D4 : Int), .slice a4 n4 c4] 57) := ⟨_, rfl⟩
    have hA5 : Below w4.heap.size w4 w5 := by rw [hw5]; exact (Below.refl _ _).alloc (Nat.le_refl _) _
    have hP5 : w5.heap[w4.heap.size]? = some (.cells #[.int .u32 (S4 : Int), .int .u32 (D4 : Int), .slice a4 n4 c4] 57 (0, 0)) := by rw [hw5]; exact heap_alloc_last w4 _
    obtain ⟨q0, q1, q2⟩ := pack_cells hP5 (Below.refl _ _)
    have HE5 := Lib.hid (packet_Encode S4 D4 n4 c4 a4 X4 w5 hs4 hd4 ((hb4.below hA5).up hA5.size) hn4)
    rw [show Pk.encErr n4 = 0 by unfold Pk.encErr; rw [if_neg (by have := hok.2.2.2; have := hb4.1; omega)], show Pk.encOut S4 D4 X4 = C by unfold Pk.encOut; rw [if_neg (by have := hok.2.2.2; omega)]; exact hok.2.2.1] at HE5
    unfold packV at HE5
    have HW5 := Lib.hid hw5
    have Ho5 := Lib.hid (Ho4.out.below (hA5.mono hz34))
    have HB5 := Lib.hid (HB4.out.trans (hA5.mono HB4.out.size))
    have hz35 := Nat.le_trans hz34 hA5.size
    clear hb4 hn4 hc4 hB4 hA5 hP5 hw5 hok hE
    rw [show ((0 : Nat) : Int) = (0 : Int) from rfl]
    go_upto_region 4 with fail
    rw [← HW5.out]
    go_wp2_with fail
    refine HE5.out.mono ?_
    rintro e w6 ⟨a6, n6, c6, rfl, ho6, hb6⟩
    have o6 := BytesAt.own ho6
    have o3 := Ho5.out.below (hb6.mono hz35)
    have k1 := conv_bytes (P := Try.prog) o3 55 5 9 c3 Try.underlying55 Try.underlying5 Try.underlying9
    have k2 := conv_bytes (P := Try.prog) o6 55 5 9 c6 Try.underlying55 Try.underlying5 Try.underlying9
    have hB6 := HB5.out.trans (hb6.mono HB5.out.size)
    clear o6 o3 ho6 hb6 q0 q1 q2
    go_wp2
    go_ret
    exact ⟨by simp, hB6⟩
  · have hx := Pk.dec_err C hE
    rw [hx.1, hx.2.1]
    rw [hx.2.2] at hb4
    obtain rfl : n4 = 0 := hb4.1.symm
    have hne : ((Pk.decErr C : Int) != 0) = true := by simp; omega
    obtain ⟨w5, hw5⟩ : ∃ w5, w5 = w4.alloc (.cells #[.int .u32 0, .int .u32 0, .slice a4 0 c4] 57) := ⟨_, rfl⟩
    have hA5 : Below w4.heap.size w4 w5 := by rw [hw5]; exact (Below.refl _ _).alloc (Nat.le_refl _) _
    have hP5 : w5.heap[w4.heap.size]? = some (.cells #[.int .u32 0, .int .u32 0, .slice a4 0 c4] 57 (0, 0)) := by rw [hw5]; exact heap_alloc_last w4 _
    obtain ⟨q0, q1, q2⟩ := pack_cells hP5 (Below.refl _ _)
    have HSP := Lib.hid (keep_SamePacket 0 0 0 0 c4 0 w5.heap.size w5.heap.size a4 none [] w5 ((hb4.below hA5).up hA5.size) ⟨rfl, fun h => absurd h (by omega)⟩ (Nat.le_refl _) (Nat.le_refl _))
    unfold packV at HSP
    have HW5 := Lib.hid hw5
    have HB5 := Lib.hid (HB4.out.trans (hA5.mono HB4.out.size))
    clear hb4 hn4 hc4 hB4 hA5 hP5 hw5 hx hE
    generalize Pk.decErr C = E at *
    rw [show ((0 : Nat) : Int) = (0 : Int) from rfl] at HSP ⊢
    go_upto_region 4 with fail
    rw [← HW5.out]
    go_wp2_with fail
    refine HSP.out.mono ?_
    rintro e w6 ⟨rfl, hB6⟩
    have hB7 := HB5.out.trans (hB6.mono HB5.out.size)
    go_wp2
    go_ret
    exact ⟨rfl, hB7⟩
end Go.Proofs.Ytfipnkledifilaa
