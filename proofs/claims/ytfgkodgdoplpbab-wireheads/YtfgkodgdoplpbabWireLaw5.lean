/- The walk of the law WireHeads. -/
import Derived.Test.YtfgkodgdoplpbabWireKeep4
import Derived.Test.YtfgkodgdoplpbabWireRef6
import Derived.Test.YtfgkodgdoplpbabKeepTurned
import Derived.SizedLaws
namespace Go.Proofs.Ytfgkodgdoplpbab
open Go.RowKit

set_option maxRecDepth 20000 in
set_option maxHeartbeats 4000000 in
theorem law_WireHeads (k a b : Int) (s : ByteArray) (q : Int) (w : World) (hb : (-9223372036854775808 ≤ k ∧ k ≤ 9223372036854775807) ∧ (-9223372036854775808 ≤ a ∧ a ≤ 9223372036854775807) ∧ (-9223372036854775808 ≤ b ∧ b ≤ 9223372036854775807))
    (t0 : -9223372036854775808 ≤ q) (t1 : q ≤ 9223372036854775807) :
    Calls Try.prog 7 #[rawV k a b s, .int .i64 q] w fun e w' => e = .returned (.bool true) ∧ Below w.heap.size w w' := by
  have HK := Lib.hid (fun W => keep_message k a b s W hb)
  have HP8 := Lib.hid (fun W => keep_picked q 8 W t0 t1 (by decide) (by decide))
  have hp8 := pick_lt q 8 (by decide)
  have hgood := Wr.g_good k a b s
  have hgl := Wr.gb_length k s
  have hgood' := hgood
  rw [← hgl] at hgood'
  have HO := Lib.hid (Wr.encOut_zero hgood')
  have HL := Lib.hid (Wr.g_len k a b s)
  have HC := Lib.hid (fun m hm => Wr.dec_cut (s := Wr.gs k a) (r := Wr.gr k a b) (c := Wr.gc k b) (Wr.err_zero.1 hgood').1 (Wr.gb k s) m hm)
  have HM1 := Lib.hid (Wr.dec_more hgood')
  have hA : Below w.heap.size w (w.alloc (.cells #[.int .i64 k, .int .i64 a, .int .i64 b, .string s] 36)) := (Below.refl _ _).alloc (Nat.le_refl _) _
  have hR := Blk.new w 36 [.int .i64 k, .int .i64 a, .int .i64 b, .string s]
  have r0 := hR.cell 0 rfl
  have r1 := hR.cell 1 rfl
  have r2 := hR.cell 2 rfl
  have r3 := hR.cell 3 rfl
  have HA := Lib.hid hA
  have HGood := Lib.hid hgood
  clear hA hR hgood hgood' hgl hb
  unfold rawV at HK ⊢
  generalize Wr.gk k = K at *
  generalize Wr.gs k a = S at *
  generalize Wr.gr k a b = R at *
  generalize Wr.gc k b = C at *
  generalize Wr.gn k s = n at *
  generalize Wr.gb k s = X at *
  generalize Wr.enc K S R C X = E at *
  generalize pick q 8 = p at *
  go_enter Try.func7, Try.ntmps7
  go_wp2_with fail
  refine (HK.out _).mono ?_
  rintro e w1 ⟨gb, rfl, hb1, hB1⟩
  unfold messV
  have hB1' := HA.out.trans (hB1.mono HA.out.size)
  have hst := step_alloc w1 (.cells #[.int .i64 (K : Int), .int .i64 (S : Int), .int .i64 (R : Int), .int .i64 (C : Int), .slice (some ⟨gb, 0, none⟩) n n] 24)
  have hM := Blk.new w1 24 [.int .i64 (K : Int), .int .i64 (S : Int), .int .i64 (R : Int), .int .i64 (C : Int), .slice (some ⟨gb, 0, none⟩) n n]
  obtain ⟨w2, hw2⟩ : ∃ w2, w2 = w1.alloc (.cells #[.int .i64 (K : Int), .int .i64 (S : Int), .int .i64 (R : Int), .int .i64 (C : Int), .slice (some ⟨gb, 0, none⟩) n n] 24) := ⟨_, rfl⟩
  rw [← hw2] at hM hst
  have HB2 := Lib.hid (hB1'.trans (hst.mono hB1'.size))
  have HE := Lib.hid (wire_Encode K S R C (some ⟨gb, 0, none⟩) n n X w2 ((hb1.below hst).up hst.size) (fun h => by cases h))
  rw [HGood.out, HO.out] at HE
  unfold messV at HE
  obtain ⟨m0, m1, m2, m3, m4⟩ := hM.facts5.1
  have HM := Lib.hid hM
  have HW2 := Lib.hid hw2
  clear r0 r1 r2 r3 hB1 hB1' hb1 hst hw2 hM
  go_upto_region 2 with fail
  rw [← HW2.out]
  go_wp2_with fail
  refine HE.out.mono ?_
  rintro e w3 ⟨a3, n3, c3, rfl, ho3, hb3⟩
  have o3 := BytesAt.own ho3
  have hn3 : E.length = n3 := o3.1
  rw [hn3] at ho3
  have hlen := HL.out
  rw [hn3] at hlen
  have hcap := own_cap ho3
  have HM3 := Lib.hid (HM.out.kept hb3)
  have HB3 := Lib.hid (HB2.out.trans (hb3.mono HB2.out.size))
  have HCl := Lib.hid (fun W (hW : Below w3.heap.size w3 W) => slices_Clone a3 n3 c3 E W ((o3.below hW).up hW.size) (own_none ho3) (by omega))
  have hcut : BytesAt w3 w3.heap.size a3 p (E.take p) := o3.cut (by omega)
  have HDe := Lib.hid (wire_Decode a3 p c3 _ w3 hcut (by omega))
  rw [HC.out p hp8] at HDe
  have hd30 : decide ((n3 : Int) < 30) = false := by simp; omega
  have hd30' : ¬ n3 < 30 := by omega
  have pc : (p : Int) ≤ (c3 : Int) := by omega
  have pc' : p ≤ c3 := by omega
  have pi : (0 : Int) ≤ (p : Int) := by omega
  have Hn3 := Lib.hid hn3
  have Hlen := Lib.hid hlen
  clear o3 ho3 hb3 hcut m0 m1 m2 m3 m4 hn3 hlen hcap
  go_wp2_with (go_at_call 18; refine (HP8.out _).mono ?_; rintro e w' ⟨rfl, rfl⟩)
  refine HDe.out.mono ?_
  rintro e w4 ⟨a4, n4, c4, rfl, _, _, _, hB4⟩
  unfold messV
  generalize Wr.dk (E.take p) = K4 at *
  generalize Wr.ds (E.take p) = S4 at *
  generalize Wr.dr (E.take p) = R4 at *
  generalize Wr.dc (E.take p) = C4 at *
  have hst := step_alloc w4 (.cells #[.int .i64 K4, .int .i64 S4, .int .i64 R4, .int .i64 C4, .slice a4 n4 c4] 24)
  obtain ⟨w5, hw5⟩ : ∃ w5, w5 = w4.alloc (.cells #[.int .i64 K4, .int .i64 S4, .int .i64 R4, .int .i64 C4, .slice a4 n4 c4] 24) := ⟨_, rfl⟩
  rw [← hw5] at hst
  have h35 : Below w3.heap.size w3 w5 := hB4.trans (hst.mono hB4.size)
  have HCl5 := Lib.hid (HCl.out w5 h35)
  have HM5 := Lib.hid (HM3.out.kept h35)
  have HB5 := Lib.hid (HB3.out.trans (h35.mono HB3.out.size))
  have HW5 := Lib.hid hw5
  clear hB4 hst hw5 h35
  go_upto_region 6 with fail
  rw [← HW5.out]
  go_wp2_with fail
  refine HCl5.out.mono ?_
  rintro e w6 ⟨a6, n6, c6, rfl, ho6, hb6⟩
  have o6 := BytesAt.own ho6
  have hn6 : E.length = n6 := o6.1
  rw [hn6] at ho6
  have HM6 := Lib.hid (HM5.out.kept hb6)
  have hB6 := HB5.out.trans (hb6.mono HB5.out.size)
  have z6 := hb6.size
  have Ho6 := Lib.hid ho6
  have Hb6 := Lib.hid hb6
  have HB6 := Lib.hid hB6
  have hle6 : n6 ≤ 300 := by have := Hlen.out; have := Hn3.out; omega
  clear ho6 hb6 hB6 o6
  go_wp2_with (at_builtin; refine wpL_append8 _ rfl _ _ rfl w5.heap.size _ n6 _ _ rfl (Ho6.out.alloc _) _ 1 _ [.int .u8 0] rfl rfl (by intro h; cases h) (fun ad h => by cases h; exact news_row _ _ _) (by simp [Value.oneCell']) (by omega) (by simp; omega) ?_)
  intro a7 c7 w7 ho7 hg7
  have hb7 : Below w5.heap.size w5 w7 := below_own (Hb6.out.alloc z6 _) (Ho6.out.alloc _) hg7 (Nat.le_refl _) (by simp; omega)
  have HM7 := Lib.hid (HM5.out.kept hb7)
  have HB7 := Lib.hid (HB5.out.trans (hb7.mono HB5.out.size))
  have ho7' : w7.ownsRow w5.heap.size 5 1 (.slice a7 (n6 + 1) c7) (n6 + 1) (bcells (E ++ [0])) := by rw [bcells_append]; exact ho7
  have hlen7 : (E ++ [0]).length = n6 + 1 := by rw [List.length_append, hn6]; rfl
  have o7 := BytesAt.own (show w7.ownsRow w5.heap.size 5 1 (.slice a7 (n6 + 1) c7) (E ++ [0]).length (bcells (E ++ [0])) by rw [hlen7]; exact ho7')
  have HDg := Lib.hid (wire_Decode a7 (n6 + 1) c7 _ w7 o7 (own_cap ho7').1)
  clear ho7 hg7 hb7 ho7' hlen7 o7 z6
  go_wp2_with fail
  refine HDg.out.mono ?_
  rintro e w8 ⟨a8, n8, c8, rfl, _, _, _, hB8⟩
  unfold messV
  generalize hF : Wr.decErr (E ++ [0]) = F at *
  have HF := Lib.hid hF
  clear hF
  generalize Wr.dk (E ++ [0]) = K8 at *
  generalize Wr.ds (E ++ [0]) = S8 at *
  generalize Wr.dr (E ++ [0]) = R8 at *
  generalize Wr.dc (E ++ [0]) = C8 at *
  have hst := step_alloc w8 (.cells #[.int .i64 K8, .int .i64 S8, .int .i64 R8, .int .i64 C8, .slice a8 n8 c8] 24)
  obtain ⟨w9, hw9⟩ : ∃ w9, w9 = w8.alloc (.cells #[.int .i64 K8, .int .i64 S8, .int .i64 R8, .int .i64 C8, .slice a8 n8 c8] 24) := ⟨_, rfl⟩
  rw [← hw9] at hst
  have h79 : Below w7.heap.size w7 w9 := hB8.trans (hst.mono hB8.size)
  have hM9 := HM7.out.kept h79
  have HB9 := Lib.hid (HB7.out.trans (h79.mono HB7.out.size))
  obtain ⟨m0, m1, m2, m3, m4⟩ := hM9.facts5.1
  have HW9 := Lib.hid hw9
  clear hB8 hst hw9 h79 hM9
  go_upto_region 7 with fail
  rw [← HW9.out]
  by_cases hk4 : K = 4
  · have hk4i : (K : Int) = 4 := by omega
    rw [hk4i] at m0
    clear hk4 hk4i
    go_wp2
    go_ret
    exact ⟨by simp, HB9.out⟩
  · have hf : F = 1 := by first | exact HM1.out hk4 | exact HF.out.symm.trans (HM1.out hk4)
    have hk4i : ¬ (K : Int) = 4 := by omega
    subst hf
    rw [show ((1 : Nat) : Int) = (1 : Int) from rfl]
    go_wp2
    go_ret
    exact ⟨by simp, HB9.out⟩
end Go.Proofs.Ytfgkodgdoplpbab
