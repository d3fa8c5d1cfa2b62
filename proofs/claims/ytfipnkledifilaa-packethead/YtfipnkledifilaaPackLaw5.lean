/- The walk of the law PacketHead. -/
import Derived.Test.YtfipnkledifilaaKeepPack
import Derived.Test.YtfipnkledifilaaKeepConcat
import Derived.Test.YtfipnkledifilaaPackCode5
import Derived.Test.YtfipnkledifilaaPackPlain2
import Derived.SizedLaws
namespace Go.Proofs.Ytfipnkledifilaa
open Go.RowKit

theorem bytes_alloc {W : World} {a : Option Addr} {n : Nat} {bs : List UInt8} (h : BytesAt W W.heap.size a n bs) (o : Obj) : BytesAt (W.alloc o) (W.alloc o).heap.size a n bs :=
  have hA : Below W.heap.size W (W.alloc o) := (Below.refl _ _).alloc (Nat.le_refl _) o
  (h.below hA).up hA.size
theorem last_at (W : World) (o p : Obj) : ((W.alloc o).alloc p).heap[W.heap.size + 1]? = some p := by
  have h := heap_alloc_last (W.alloc o) p
  rw [show (W.alloc o).heap.size = W.heap.size + 1 by simp] at h
  exact h
theorem first_at (W : World) (o p : Obj) : ((W.alloc o).alloc p).heap[W.heap.size]? = some o := by
  rw [Below.heap_alloc _ _ _ (by simp)]; exact heap_alloc_last W _
/-- Concat at two slices that have just been laid into a row, and behind one block more. -/
theorem concat_at (a b : Option Addr) (n m ca cb : Nat) (xs ys : List UInt8) (t : TypeId) (g : Nat) (w0 W W2 : World) (hg : W.heap.size = g) (hW : Below w0.heap.size w0 W) (hx : BytesAt W W.heap.size a n xs) (hy : BytesAt w0 w0.heap.size b m ys) (hn0 : 0 < n) (hnb : b = none → m = 0 ∧ cb = 0) (hn : n ≤ 1000) (hm : m ≤ 1000)
    (hA2 : Below (W.alloc (.cells #[.slice a n ca, .slice b m cb] t)).heap.size (W.alloc (.cells #[.slice a n ca, .slice b m cb] t)) W2) :
    Calls Try.prog 37 #[.slice (some ⟨g, 0, none⟩) 2 2] W2 fun e w' => ∃ a1 c1, e = .returned (.slice a1 (n + m) c1) ∧ BytesAt w' w'.heap.size a1 (n + m) (xs ++ ys) ∧ n + m ≤ c1 ∧ Below W2.heap.size W2 w' ∧ Below w0.heap.size w0 w' := by
  subst hg
  have hA : Below W.heap.size W (W.alloc (.cells #[.slice a n ca, .slice b m cb] t)) := (Below.refl _ _).alloc (Nat.le_refl _) _
  have hc := two_cells W (.slice a n ca) (.slice b m cb) t
  have hl : (xs ++ ys).length = n + m := by rw [List.length_append, hx.1, hy.1]
  have hlt : W.heap.size < (W.alloc (.cells #[.slice a n ca, .slice b m cb] t)).heap.size := by simp
  have hAW := hA.trans (hA2.mono (Nat.le_of_lt hlt))
  have hW2 := hW.trans (hAW.mono hW.size)
  have hna : a = none → n = 0 ∧ ca = 0 := by intro e; obtain ⟨b', off', e', _⟩ := hx.2 hn0; rw [e] at e'; cases e'
  refine (slices_Concat W.heap.size 2 a b n m ca cb xs ys _ (Nat.lt_of_lt_of_le hlt hA2.size) ((hA2.cell (p := ⟨W.heap.size, 0, none⟩) hlt).trans hc.1) ((hA2.cell (p := ⟨W.heap.size, 1, none⟩) hlt).trans hc.2) ((hx.below hAW).up hAW.size) ((hy.below hW2).up hW2.size) hna hnb (by omega) (by omega) (by omega)).mono ?_
  rintro e w' ⟨a1, n1, c1, rfl, ho, hb⟩
  have o := BytesAt.own ho
  obtain rfl : n1 = n + m := by rw [← o.1, hl]
  rw [hl] at ho
  exact ⟨a1, c1, rfl, o, (own_cap ho).1, hb, hW2.trans (hb.mono hW2.size)⟩

set_option maxRecDepth 20000 in
set_option maxHeartbeats 8000000 in
theorem law_PacketHead (k a b : Int) (s : ByteArray) (at_ by_ : Int) (w : World) (hb : (-9223372036854775808 ≤ k ∧ k ≤ 9223372036854775807) ∧ (-9223372036854775808 ≤ a ∧ a ≤ 9223372036854775807) ∧ (-9223372036854775808 ≤ b ∧ b ≤ 9223372036854775807))
    (t0 : -9223372036854775808 ≤ at_) (t1 : at_ ≤ 9223372036854775807) (y0 : 0 ≤ by_) (y1 : by_ ≤ 255) :
    Calls Try.prog 13 #[rawV k a b s, .int .i64 at_, .int .u8 by_] w fun e w' => e = .returned (.bool true) ∧ Below w.heap.size w w' := by
  obtain ⟨_, ⟨a0, a1⟩, b0, b1⟩ := hb
  obtain ⟨B, rfl⟩ : ∃ B : UInt8, by_ = (B.toNat : Int) := ⟨UInt8.ofNat by_.toNat, by rw [UInt8.toNat_ofNat']; omega⟩
  have hlen := Pk.rawB_length s
  have lS := Pk.rawS_lt 0 a
  have lD := Pk.rawD_lt 0 b
  have HEn := Lib.hid (Pk.enc_length (Pk.rawS 0 a) (Pk.rawD 0 b) (Pk.rawB s))
  have HTh := Lib.hid (Pk.turned_head (Pk.rawS 0 a) (Pk.rawD 0 b) (Pk.rawB s) at_ B lS lD (by omega))
  have HK := Lib.hid (fun W => keep_Packet 0 (by omega) k a b s W a0 a1 b0 b1)
  obtain ⟨w0, hw0⟩ : ∃ w0, w0 = w.alloc (.cells #[.int .i64 k, .int .i64 a, .int .i64 b, .string s] 37) := ⟨_, rfl⟩
  have hA : Below w.heap.size w w0 := by rw [hw0]; exact (Below.refl _ _).alloc (Nat.le_refl _) _
  have hP : w0.heap[w.heap.size]? = some (.cells #[.int .i64 k, .int .i64 a, .int .i64 b, .string s] 37 (0, 0)) := by rw [hw0]; exact heap_alloc_last w _
  have r0 : w0.cell? ⟨w.heap.size, 0, none⟩ = some (.int .i64 k) := by rw [cell_of_row _ _ _ _ _ _ hP]; rfl
  have r1 : w0.cell? ⟨w.heap.size, 1, none⟩ = some (.int .i64 a) := by rw [cell_of_row _ _ _ _ _ _ hP]; rfl
  have r2 : w0.cell? ⟨w.heap.size, 2, none⟩ = some (.int .i64 b) := by rw [cell_of_row _ _ _ _ _ _ hP]; rfl
  have r3 : w0.cell? ⟨w.heap.size, 3, none⟩ = some (.string s) := by rw [cell_of_row _ _ _ _ _ _ hP]; rfl
  have HA := Lib.hid hA
  have HW := Lib.hid hw0
  clear hA hP hw0
  unfold rawV at HK ⊢
  generalize Pk.rawS 0 a = S at *
  generalize Pk.rawD 0 b = D at *
  generalize Pk.rawB s = X at *
  go_enter Try.func13, Try.ntmps13
  go_upto_region 1 with fail
  rw [← HW.out]
  go_wp2_with fail
  refine (HK.out _).mono ?_
  rintro e w1 ⟨ad, m, c, rfl, hb1, hn1, hB1⟩
  obtain rfl : X.length = m := hb1.1
  have HE := Lib.hid (packet_Encode S D X.length c ad X w1 lS lD hb1 hn1)
  rw [show Pk.encErr X.length = 0 by unfold Pk.encErr; rw [if_neg (by omega)], show Pk.encOut S D X = Pk.enc S D X by unfold Pk.encOut; rw [if_neg (by omega)]] at HE
  have HB1 := Lib.hid (HA.out.trans (hB1.mono HA.out.size))
  clear r0 r1 r2 r3 hb1 hn1 hB1
  go_wp2_with fail
  refine HE.out.mono ?_
  rintro e w2 ⟨a2, n2, c2, rfl, ho2, hb2⟩
  have o2 := BytesAt.own ho2
  have hn2 : (Pk.enc S D X).length = n2 := o2.1
  rw [hn2] at ho2
  have hl2 : n2 = 20 + X.length := by rw [← hn2]; exact HEn.out
  have hcap2 := own_cap ho2
  obtain ⟨g, rfl, -, -⟩ := own_form ho2 (by omega)
  have HB2 := Lib.hid (HB1.out.trans (hb2.mono HB1.out.size))
  have hn20 : 20 ≤ n2 := by omega
  have hn60 : n2 ≤ 60 := by omega
  have hd20 : decide ((n2 : Int) < 20) = false := by simp; omega
  have i20 : (20 : Int) ≤ (n2 : Int) := by omega
  have inc : (n2 : Int) ≤ (c2 : Int) := by omega
  have ic20 : (20 : Int) ≤ (c2 : Int) := by omega
  have ic19 : (19 : Int) ≤ (c2 : Int) := by omega
  obtain ⟨off', hoff⟩ : ∃ off', (if c2 = 20 then (some ⟨g, 0, none⟩ : Option Addr) else some ⟨g, 20, none⟩) = some ⟨g, off', none⟩ := by
    by_cases hc20 : c2 = 20
    · exact ⟨0, if_pos hc20⟩
    · exact ⟨20, if_neg hc20⟩
  have hd : BytesAt w2 w2.heap.size (some ⟨g, off', none⟩) (n2 - 20) ((Pk.enc S D X).drop 20) := by
    by_cases hc20 : c2 = 20
    · refine ⟨by rw [List.length_drop, hn2], fun hp => absurd hp (by omega)⟩
    · rw [if_neg hc20] at hoff
      rw [← hoff]
      have := o2.part (m := 20) (by omega)
      rw [Nat.zero_add] at this
      exact this
  obtain ⟨q, hq⟩ : ∃ q, n2 - 20 = q := ⟨_, rfl⟩
  rw [hq] at hd
  have hqn : 20 + q = n2 := by omega
  have Hqn := Lib.hid hqn
  have h20 := o2.cut (m := 20) (by omega)
  have h19 := o2.cut (m := 19) (by omega)
  obtain ⟨T, hT⟩ : ∃ T, T = turned ((Pk.enc S D X).take 20) at_ B := ⟨_, rfl⟩
  have hTl : T.length = 20 := by rw [hT, turned_length, List.length_take, hn2]; omega
  have H19 := Lib.hid h19
  have HTu : Hid (∀ W, Below w2.heap.size w2 W → Calls Try.prog 38 #[.slice (some ⟨g, 0, none⟩) 20 c2, .int .i64 at_, .int .u8 (B.toNat : Int)] W fun e w' => ∃ a5 c5, e = .returned (.slice a5 20 c5) ∧ BytesAt w' w'.heap.size a5 20 T ∧ Below W.heap.size W w' ∧ Below w2.heap.size w2 w') := Lib.hid (fun W hW => by
    refine (keep_Turned (some ⟨g, 0, none⟩) 20 c2 _ at_ B W ((h20.below hW).up hW.size) (fun h => by cases h) (by omega) (by omega) t0 t1).mono ?_
    rintro e w' ⟨a5, n5, c5, rfl, ho, hb⟩
    have o := BytesAt.own ho
    rw [← hT] at o
    obtain rfl : n5 = 20 := by rw [← o.1, hTl]
    exact ⟨a5, c5, rfl, o, hb, hW.trans (hb.mono hW.size)⟩)
  obtain ⟨Y, hY⟩ : ∃ Y, Y = (Pk.enc S D X).drop 20 := ⟨_, rfl⟩
  rw [← hY] at hd HTh
  rw [← hT] at HTh
  have Hd := Lib.hid hd
  have HDc : Hid (∀ W a7 c7, Below w2.heap.size w2 W → BytesAt W W.heap.size a7 (20 + q) (T ++ Y) → 20 + q ≤ c7 → Calls Try.prog 32 #[.slice a7 (20 + q) c7] W fun e w' => ∃ a8 n8 c8, e = .returned (.tuple #[.agg #[.int .u32 0, .int .u32 0, .slice a8 n8 c8], .int .i64 3]) ∧ Below W.heap.size W w' ∧ Below w2.heap.size w2 w') := Lib.hid (fun W a7 c7 hW h7 hc7 => by
    have hx := Pk.dec_err (T ++ Y) (by rw [HTh.out]; decide)
    refine (packet_Decode a7 (20 + q) c7 (T ++ Y) W h7 hc7).mono ?_
    rintro e w' ⟨a8, n8, c8, rfl, _, _, _, hb⟩
    rw [hx.1, hx.2.1, HTh.out]
    exact ⟨a8, n8, c8, rfl, hb, hW.trans (hb.mono hW.size)⟩)
  have HSA : Hid (∀ W o, Below w2.heap.size w2 W → Below w2.heap.size w2 (W.alloc o)) := Lib.hid (fun W o hW => hW.alloc hW.size o)
  have HSS : Hid (∀ (W : World) (g : Nat) p q r, w2.heap.size ≤ g → Below w2.heap.size w2 W → Below w2.heap.size w2 (((W.setCell ⟨g, 0, none⟩ p).setCell ⟨g, 1, none⟩ q).setCell ⟨g, 2, none⟩ r)) := Lib.hid (fun W g p q r hg hW => ((hW.setCell hg p).setCell hg q).setCell hg r)
  have hD0 : Below w2.heap.size w2 w2.drew := (Below.refl _ _).drew
  have hqs : q ≤ 40 := by omega
  clear o2 ho2 hb2 hn2 hl2 hcap2 hd h20 h19 hT hTl hY hqn HTh HEn
  go_upto_region 4 with fail
  go_cut [10] (fun v10 wx => v10 = .int .i64 3 ∧ Below w2.heap.size w2 wx)
  case first =>
    go_region_held3 (fun W => Below w2.heap.size w2 W) (first | assumption | (exact HSA.out _ _ (by assumption)) | (exact HSA.out _ _ (HSA.out _ _ (by assumption))) | (exact HSS.out _ _ _ _ _ (by first | exact Nat.le_refl _ | (exact Below.size (by assumption)) | (exact Nat.le_succ_of_le (Below.size (by assumption)))) (by assumption)))
      (first
        | (go_at_call 38; refine (HTu.out _ (by first | assumption | exact HSA.out _ _ (by assumption))).mono ?_; rintro e w5 ⟨a5, c5, rfl, o5, hb5, hS5⟩; have hnn := new_pack hb5 (heap_alloc_last _ _); obtain ⟨k0, k1, k2, f0, f1, f2, hk⟩ := hnn)
        | (go_at_call 38; refine (HTu.out _ (by first | assumption | exact HSA.out _ _ (by assumption))).mono ?_; rintro e w5 ⟨a5, c5, rfl, o5, hb5, hS5⟩)
        | (go_at_call 37; with_reducible refine (concat_at _ _ 20 q _ _ T Y _ _ w2 w5 _ rfl (by assumption) (by assumption) Hd.out (by decide) (fun h => by cases h) (by decide) (by omega) ((Below.refl _ _).alloc (Nat.le_refl _) _)).mono ?_; rintro e w7 ⟨a7, c7, rfl, o7, u7, hb7, hS7⟩; have hnn := new_pack hb7 (last_at w5 _ _); obtain ⟨k0, k1, k2, f0, f1, f2, hk⟩ := hnn)
        | (go_at_call 37; with_reducible refine (concat_at _ _ 20 q _ _ T Y _ _ w2 w5 _ rfl (by assumption) (by assumption) Hd.out (by decide) (fun h => by cases h) (by decide) (by omega) (Below.refl _ _)).mono ?_; rintro e w7 ⟨a7, c7, rfl, o7, u7, hb7, hS7⟩; have hnn := new_pack hb7 (pack_block (pack_below (Hid.out (by assumption)) ((Below.refl _ _).alloc (Nat.le_refl _) _))); obtain ⟨k0, k1, k2, f0, f1, f2, hk⟩ := hnn)
        | (go_at_call 37; with_reducible refine (concat_at _ _ 20 q _ _ T Y _ _ w2 w5 _ rfl (by assumption) (by assumption) Hd.out (by decide) (fun h => by cases h) (by decide) (by omega) (Below.refl _ _)).mono ?_; rintro e w7 ⟨a7, c7, rfl, o7, u7, hb7, hS7⟩)
        | (go_at_call 37; with_reducible refine (concat_at _ _ 20 q _ _ T Y _ _ w2 (w5.alloc _) _ (by simp) (HSA.out _ _ (by assumption)) (bytes_alloc (by assumption) _) Hd.out (by decide) (fun h => by cases h) (by decide) (by omega) (Below.refl _ _)).mono ?_; rintro e w7 ⟨a7, c7, rfl, o7, u7, hb7, hS7⟩; have hnn := new_pack hb7 (first_at w5 _ _); obtain ⟨k0, k1, k2, f0, f1, f2, hk⟩ := hnn)
        | (go_at_call 32; refine (HDc.out _ _ _ (by first | assumption | exact HSA.out _ _ (by assumption)) (by first | assumption | exact bytes_alloc (by assumption) _) (by assumption)).mono ?_; rintro e w8 ⟨a8, n8, c8, rfl, hb8, hS8⟩; have hnn := new_pack hb8 (heap_alloc_last _ _); obtain ⟨k0, k1, k2, f0, f1, f2, hk⟩ := hnn)
        | (go_at_call 32; refine (HDc.out _ _ _ (by assumption) (by assumption) (by assumption)).mono ?_; rintro e w8 ⟨a8, n8, c8, rfl, hb8, hS8⟩; have hnn := new_pack hb8 (pack_block (Hid.out (by assumption))); obtain ⟨k0, k1, k2, f0, f1, f2, hk⟩ := hnn)
        | (go_at_call 32; refine (HDc.out _ _ _ (by assumption) (by assumption) (by assumption)).mono ?_; rintro e w8 ⟨a8, n8, c8, rfl, hb8, hS8⟩))
    all_goals
      go_wp2_with fail
      go_meet
      case rel => exact ⟨rfl, by first | assumption | exact HSA.out _ _ (by assumption) | exact HSS.out _ _ _ _ _ (by first | exact Nat.le_refl _ | (exact Below.size (by assumption)) | (exact Nat.le_succ_of_le (Below.size (by assumption)))) (by assumption)⟩
  case rest =>
    obtain ⟨rfl, hbc⟩ := hcut
    have h9 := H19.out.below hbc
    have HDe := Lib.hid (packet_Decode (some ⟨g, 0, none⟩) 19 c2 _ wc (h9.up hbc.size) (by omega))
    have h8 : Pk.decErr ((Pk.enc S D X).take 19) = 8 := by unfold Pk.decErr; rw [if_pos (by rw [h9.1]; decide)]
    rw [h8] at HDe
    have Hbc := Lib.hid (HB2.out.trans (hbc.mono HB2.out.size))
    clear h9 hbc h8 HSA HSS hD0
    go_wp2_with fail
    refine HDe.out.mono ?_
    rintro e w9 ⟨a9, n9, c9, rfl, _, _, _, hb9⟩
    unfold packV
    have hB9 := Hbc.out.trans (hb9.mono Hbc.out.size)
    go_wp2
    go_ret
    exact ⟨rfl, hB9.alloc hB9.size _⟩
end Go.Proofs.Ytfipnkledifilaa
