/- The law NetBack walked. -/
import Derived.Test.YthcdebdohlffpaaDoorNetCode2
import Derived.Test.YthcdebdohlffpaaDoorNetRef5
import Derived.Test.YthcdebdohlffpaaDoorCodeTabs
import Derived.Test.YthcdebdohlffpaaDoorKeepNet
import Derived.Test.YthcdebdohlffpaaDoorKeepNetText
import Derived.Laws.StructEq
namespace Go.Proofs.YthcdebdohlffpaaDoor
open Go.RowKit

set_option maxRecDepth 20000 in
set_option maxHeartbeats 800000 in
theorem law_NetBack (k a b : Int) (s : ByteArray) (w : World) (k0 : -9223372036854775808 ≤ k) (k1 : k ≤ 9223372036854775807) (a0 : -9223372036854775808 ≤ a) (a1 : a ≤ 9223372036854775807) (b0 : -9223372036854775808 ≤ b) (b1 : b ≤ 9223372036854775807) (hC : CodeTabs w) :
    Calls Tryd.prog 4 #[rawV k a b s] w fun e w' => e = .returned (.bool true) ∧ Below w.heap.size w w' := by
  obtain ⟨w1, hw1⟩ : ∃ w1, w1 = w.alloc (.cells #[.int .i64 k, .int .i64 a, .int .i64 b, .string s] 32) := ⟨_, rfl⟩
  have hA : Below w.heap.size w w1 := by rw [hw1]; exact (Below.refl _ _).alloc (Nat.le_refl _) _
  have hz1 : w1.heap.size = w.heap.size + 1 := by rw [hw1]; simp
  obtain ⟨g1, g2, g3⟩ := raw_good k a b
  have HC := Lib.hid (hC.below hA)
  have H0 := Lib.hid (fun W => keep_Net k a b s W k0 k1 a0 a1 b0 b1)
  obtain ⟨p1, p2, p3⟩ := Nt.par_text g1 g2 g3
  have ht : Nt.textOut (Nt.rawA k a b) (Nt.rawB k a b : Int) = Nt.text (Nt.rawA k a b) (Nt.rawB k a b) := by unfold Nt.textOut; rw [if_pos g3, Int.toNat_natCast]
  have H1 : Hid (∀ W, Below w1.heap.size w1 W → Calls Tryd.prog 5 #[netV (Nt.rawA k a b) (Nt.rawB k a b : Int)] W fun e W' => e = .returned (.tuple #[.string (strOf (Nt.text (Nt.rawA k a b) (Nt.rawB k a b))), .int .i64 0]) ∧ Below W.heap.size W W') := Lib.hid (fun W hW => by
    have := net_Text (Nt.rawA k a b) (Nt.rawB k a b : Int) W g1 (by omega) (by omega) (HC.out.below hW)
    rw [ht, g3] at this
    exact this)
  have H2 : Hid (∀ W, Below w1.heap.size w1 W → Calls Tryd.prog 6 #[.string (strOf (Nt.text (Nt.rawA k a b) (Nt.rawB k a b)))] W fun e W' => e = .returned (.tuple #[netV (Nt.rawA k a b) (Nt.rawB k a b : Int), .int .i64 0]) ∧ Below W.heap.size W W') := Lib.hid (fun W hW => by
    have hl1 := addr_text_short _ g1
    have hl2 := dec_short (Nt.rawB k a b) (by omega)
    have hsz : (strOf (Nt.text (Nt.rawA k a b) (Nt.rawB k a b))).size ≤ 1048576 := by rw [strOf_size]; unfold Nt.text; rw [List.length_append, List.length_cons]; omega
    have := net_Parse _ W hsz (HC.out.below hW)
    rw [strOf_list, p1, p2, p3] at this
    exact this)
  have H3 : Hid (∀ W, Below w1.heap.size w1 W → Calls Tryd.prog 10 #[netV (Nt.rawA k a b) (Nt.rawB k a b : Int)] W fun e W' => e = .returned (.string (strOf (Nt.text (Nt.rawA k a b) (Nt.rawB k a b)))) ∧ Below W.heap.size W W') := Lib.hid (fun W hW => by
    have := keep_NetText (Nt.rawA k a b) (Nt.rawB k a b : Int) W g1 (by omega) (by omega) (HC.out.1.below hW)
    have e : Lib.itoa (Nt.rawB k a b : Int) = Lib.decDigits (Nt.rawB k a b) := by unfold Lib.itoa; rw [if_neg (by omega), Int.toNat_natCast]
    rw [e] at this
    exact this)
  clear hC ht p1 p2 p3 g1 g2 g3
  unfold rawV netV at H0
  unfold netV at H1 H2 H3
  unfold rawV
  generalize strOf (Nt.text (Nt.rawA k a b) (Nt.rawB k a b)) = T at *
  generalize Nt.rawA k a b = A at *
  generalize Nt.rawB k a b = B at *
  go_enter Tryd.func4, Tryd.ntmps4
  go_wp2_with fail
  rw [← hw1]
  clear hw1
  refine (H0.out _).mono ?_
  rintro e w2 ⟨rfl, hb2⟩
  have hz2 : w.heap.size < w2.heap.size := by have := hb2.size; omega
  go_wp2_with fail
  refine (H1.out _ (hb2.alloc hb2.size _)).mono ?_
  rintro e w3 ⟨rfl, hb3⟩
  have Hb3 := Lib.hid hb3
  have hB3 := (hb2.alloc hb2.size _).trans (hb3.mono (by simp; omega))
  clear hb3
  go_wp2_with fail
  refine (H2.out _ hB3).mono ?_
  rintro e w4 ⟨rfl, hb4⟩
  have hB4 := hB3.trans (hb4.mono hB3.size)
  have HX := Lib.hid (net_cells (heap_alloc_last w2 _) (Hb3.out.trans (hb4.mono Hb3.out.size)))
  have hz4 : w2.heap.size < w4.heap.size := by have h1 := Hb3.out.size; have h2 := hb4.size; simp at h1; omega
  obtain ⟨d0, d1⟩ := HX.out
  go_wp2_with fail
  refine (H3.out _ (hB4.alloc hB4.size _)).mono ?_
  rintro e w5 ⟨rfl, hb5⟩
  have hB5 := (hB4.alloc hB4.size _).trans (hb5.mono (by have := hB4.size; simp; omega))
  have hB6 := hA.trans (hB5.mono (by omega))
  clear d0 d1
  go_wp2
  go_ret
  exact ⟨by simp, hB6⟩
end Go.Proofs.YthcdebdohlffpaaDoor
