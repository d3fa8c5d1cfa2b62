/- The walk of the law PacketBack. -/
import Derived.Test.YtfipnkledifilaaKeepPack
import Derived.Test.YtfipnkledifilaaPackCode5
import Derived.Test.YtfipnkledifilaaPackSame2
import Derived.SizedLaws
namespace Go.Proofs.Ytfipnkledifilaa
open Go.RowKit

set_option maxRecDepth 20000 in
set_option maxHeartbeats 4000000 in
theorem walk_PacketBack (y : Bool) (x : Nat) (hyx : (y = true ∧ x = 1) ∨ (y = false ∧ x = 0)) (k a b : Int) (s : ByteArray) (w : World) (a0 : -9223372036854775808 ≤ a) (a1 : a ≤ 9223372036854775807) (b0 : -9223372036854775808 ≤ b) (b1 : b ≤ 9223372036854775807) :
    Calls Try.prog 12 #[.bool y, rawV k a b s] w fun e w' => e = .returned (.bool true) ∧ Below w.heap.size w w' := by
  have hlen := Pk.rawB_length s
  have lS := Pk.rawS_lt x a
  have lD := Pk.rawD_lt x b
  have HD := Lib.hid (Pk.dec_enc (Pk.rawS x a) (Pk.rawD x b) (Pk.rawB s) lS lD (by omega))
  have HEn := Lib.hid (Pk.enc_length (Pk.rawS x a) (Pk.rawD x b) (Pk.rawB s))
  have HK := Lib.hid (fun W => keep_Packet x (by omega) k a b s W a0 a1 b0 b1)
  obtain ⟨w0, hw0⟩ : ∃ w0, w0 = w.alloc (.cells #[.int .i64 k, .int .i64 a, .int .i64 b, .string s] 37) := ⟨_, rfl⟩
  have hA : Below w.heap.size w w0 := by rw [hw0]; exact (Below.refl _ _).alloc (Nat.le_refl _) _
  have hP : w0.heap[w.heap.size]? = some (.cells #[.int .i64 k, .int .i64 a, .int .i64 b, .string s] 37 (0, 0)) := by rw [hw0]; exact heap_alloc_last w _
  have r0 : w0.cell? ⟨w.heap.size, 0, none⟩ = some (.int .i64 k) := by rw [cell_of_row _ _ _ _ _ _ hP]; rfl
  have r1 : w0.cell? ⟨w.heap.size, 1, none⟩ = some (.int .i64 a) := by rw [cell_of_row _ _ _ _ _ _ hP]; rfl
  have r2 : w0.cell? ⟨w.heap.size, 2, none⟩ = some (.int .i64 b) := by rw [cell_of_row _ _ _ _ _ _ hP]; rfl
  have r3 : w0.cell? ⟨w.heap.size, 3, none⟩ = some (.string s) := by rw [cell_of_row _ _ _ _ _ _ hP]; rfl
  have HA := Lib.hid hA
  have HW := Lib.hid hw0
  clear hA hP hw0
  unfold rawV at HK ⊢
  generalize Pk.rawS x a = S at *
  generalize Pk.rawD x b = D at *
  generalize Pk.rawB s = X at *
  rcases hyx with ⟨rfl, rfl⟩ | ⟨rfl, rfl⟩
  all_goals
    go_enter Try.func12, Try.ntmps12
    go_upto_region 1 with fail
    rw [← HW.out]
    go_wp2_with fail
    refine (HK.out _).mono ?_
    rintro e w1 ⟨ad, m, c, rfl, hb1, hn1, hB1⟩
    unfold packV
    obtain rfl : X.length = m := hb1.1
    obtain ⟨w2, hw2⟩ : ∃ w2, w2 = w1.alloc (.cells #[.int .u32 (S : Int), .int .u32 (D : Int), .slice ad X.length c] 57) := ⟨_, rfl⟩
    have hA2 : Below w1.heap.size w1 w2 := by rw [hw2]; exact (Below.refl _ _).alloc (Nat.le_refl _) _
    have hP2 : w2.heap[w1.heap.size]? = some (.cells #[.int .u32 (S : Int), .int .u32 (D : Int), .slice ad X.length c] 57 (0, 0)) := by rw [hw2]; exact heap_alloc_last w1 _
    have hz2 : w1.heap.size < w2.heap.size := by rw [hw2]; simp
    have hB2 := HA.out.trans ((hB1.trans (hA2.mono hB1.size)).mono HA.out.size)
    have HE := Lib.hid (packet_Encode S D X.length c ad X w2 lS lD ((hb1.below hA2).up hA2.size) hn1)
    rw [show Pk.encErr X.length = 0 by unfold Pk.encErr; rw [if_neg (by omega)], show Pk.encOut S D X = Pk.enc S D X by unfold Pk.encOut; rw [if_neg (by omega)]] at HE
    unfold packV at HE
    obtain ⟨p0, p1, p2⟩ := pack_cells hP2 (Below.refl _ _)
    have HP2 := Lib.hid hP2
    have HW2 := Lib.hid hw2
    have HB2 := Lib.hid hB2
    have Hb2 := Lib.hid (hb1.below hA2)
    clear r0 r1 r2 r3 hb1 hn1 hB1 hA2 hP2 hw2 hB2
    go_upto_region 5 with fail
    rw [← HW2.out]
    go_wp2_with fail
    refine HE.out.mono ?_
    rintro e w3 ⟨a3, n3, c3, rfl, ho3, hb3⟩
    have o3 := BytesAt.own ho3
    have hn3 : (Pk.enc S D X).length = n3 := o3.1
    rw [hn3] at ho3
    have hc3 := (own_cap ho3).1
    have HDe := Lib.hid (packet_Decode a3 n3 c3 _ w3 o3 hc3)
    rw [HD.out.1, HD.out.2.1, HD.out.2.2.1, HD.out.2.2.2] at HDe
    have hlE : n3 = 20 + X.length := by rw [← hn3]; exact HEn.out
    have HlE := Lib.hid hlE
    have hB3 := HB2.out.trans (hb3.mono HB2.out.size)
    have P3 := Lib.hid ((hb3.block _ hz2).trans HP2.out)
    have hz3 : w1.heap.size < w3.heap.size := Nat.lt_of_lt_of_le hz2 hb3.size
    have Hb3 := Lib.hid (Hb2.out.below (hb3.mono (Nat.le_of_lt hz2)))
    have HB3 := Lib.hid hB3
    clear p0 p1 p2 ho3 hb3 o3 hc3 hB3 hn3 hlE
    go_wp2_with fail
    refine HDe.out.mono ?_
    rintro e w4 ⟨a4, n4, c4, rfl, hb4, hn4, hc4, hB4⟩
    unfold packV
    obtain rfl : X.length = n4 := hb4.1
    obtain ⟨w5, hw5⟩ : ∃ w5, w5 = w4.alloc (.cells #[.int .u32 (S : Int), .int .u32 (D : Int), .slice a4 X.length c4] 57) := ⟨_, rfl⟩
    have hA5 : Below w4.heap.size w4 w5 := by rw [hw5]; exact (Below.refl _ _).alloc (Nat.le_refl _) _
    have hP5 : w5.heap[w4.heap.size]? = some (.cells #[.int .u32 (S : Int), .int .u32 (D : Int), .slice a4 X.length c4] 57 (0, 0)) := by rw [hw5]; exact heap_alloc_last w4 _
    have h35 := hB4.trans (hA5.mono hB4.size)
    obtain ⟨q0, q1, q2⟩ := pack_cells hP5 (Below.refl _ _)
    obtain ⟨p0, p1, p2⟩ := pack_cells P3.out h35
    have hB5 := HB3.out.trans (h35.mono HB3.out.size)
    have HSP := Lib.hid (keep_SamePacket S D X.length X.length c c4 _ _ ad a4 X w5 (Hb3.out.below (h35.mono (Nat.le_of_lt hz3))) (hb4.below hA5) (Nat.le_of_lt (Nat.lt_of_lt_of_le hz3 h35.size)) hA5.size)
    unfold packV at HSP
    have HW5 := Lib.hid hw5
    have HB5 := Lib.hid hB5
    have Hlt := Lib.hid (Nat.lt_of_lt_of_le hz3 h35.size)
    have P5 := Lib.hid ((h35.block _ hz3).trans P3.out)
    clear hb4 hn4 hc4 hB4 hA5 hP5 hw5 h35 hB5
    go_upto_region 7 with fail
    rw [← HW5.out]
    go_wp2_with fail
    refine HSP.out.mono ?_
    rintro e w6 ⟨rfl, hB6⟩
    have hB7 := HB5.out.trans (hB6.mono HB5.out.size)
    have hc6 : w6.cell? ⟨w1.heap.size, 2, none⟩ = some (.slice ad X.length c) := by
      rw [hB6.cell (p := ⟨w1.heap.size, 2, none⟩) Hlt.out, cell_of_row _ _ _ _ _ _ P5.out]; rfl
    clear p0 p1 p2 q0 q1 q2
    have hli : (n3 : Int) = 20 + (X.length : Int) := by have := HlE.out; omega
    go_wp2
    go_ret
    exact ⟨by simp, hB7⟩
theorem law_PacketBack (y : Bool) (k a b : Int) (s : ByteArray) (w : World) (hb : (-9223372036854775808 ≤ k ∧ k ≤ 9223372036854775807) ∧ (-9223372036854775808 ≤ a ∧ a ≤ 9223372036854775807) ∧ (-9223372036854775808 ≤ b ∧ b ≤ 9223372036854775807)) :
    Calls Try.prog 12 #[.bool y, rawV k a b s] w fun e w' => e = .returned (.bool true) ∧ Below w.heap.size w w' := by
  cases y
  · exact walk_PacketBack false 0 (.inr ⟨rfl, rfl⟩) k a b s w hb.2.1.1 hb.2.1.2 hb.2.2.1 hb.2.2.2
  · exact walk_PacketBack true 1 (.inl ⟨rfl, rfl⟩) k a b s w hb.2.1.1 hb.2.1.2 hb.2.2.1 hb.2.2.2
end Go.Proofs.Ytfipnkledifilaa
