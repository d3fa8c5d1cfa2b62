/- The walks of the laws WindowChecks and WindowTakes. -/
import Derived.Test.YtgcaapehfnmelaaWinCode
import Derived.Test.YtgcaapehfnmelaaMemG
import Derived.Laws.StructEq
namespace Go.Proofs.Ytgcaapehfnmelaa
open Go.RowKit

set_option maxHeartbeats 400000 in
theorem law_WindowChecks (so : Bool) (la : Int) (b : Nat) (n : Int) (w : World) (l0 : -9223372036854775808 ≤ la) (l1 : la ≤ 9223372036854775807) (hb : b < 18446744073709551616) (n0 : -9223372036854775808 ≤ n) (n1 : n ≤ 9223372036854775807) :
    Calls Try.prog 3 #[seenV so la b, .int .i64 n] w fun e w' => e = .returned (.bool true) ∧ Below w.heap.size w w' := by
  have F1 := Lib.hid (fun W => win_Check so la b W l0 l1 hb)
  have F2 := Lib.hid (fun W => win_Has so la b n W l0 l1 hb n0 n1)
  have F3 := Lib.hid (fun W => ref_WindowFault so la b W l0 l1 hb)
  have F4 := Lib.hid (fun W => ref_WindowHas so la b n W l0 l1 hb n0 n1)
  unfold seenV at *
  obtain ⟨W0, hW0⟩ : ∃ W0, W0 = w.alloc (.cells #[.bool so, .int .i64 la, .int .u64 (b : Int)] 24) := ⟨_, rfl⟩
  have hA : Below w.heap.size w W0 := by rw [hW0]; exact (Below.refl _ _).alloc (Nat.le_refl _) _
  have R0 : W0.ownsRow w.heap.size 24 1 (.slice (some ⟨w.heap.size, 0, none⟩) 3 3) 3 [.bool so, .int .i64 la, .int .u64 (b : Int)] := by rw [hW0]; exact own_three (heap_alloc_last w _) (Nat.le_refl _)
  have HR0 := Lib.hid R0
  clear R0
  go_enter Try.func3, Try.ntmps3
  go_wp2_with fail
  rw [← hW0]
  clear hW0
  refine (F1.out _).mono ?_
  rintro e w1 ⟨rfl, hb1⟩
  have HR1 := Lib.hid (own_below HR0.out hb1)
  obtain ⟨c0, c1, c2⟩ := three_cells HR1.out
  have hB1 := hA.trans (hb1.mono hA.size)
  clear hb1
  go_wp2_with fail
  refine (F2.out _).mono ?_
  rintro e w2 ⟨rfl, hb2⟩
  have HR2 := Lib.hid (own_below HR1.out hb2)
  have hB2 := hB1.trans (hb2.mono hB1.size)
  clear hb2 c0 c1 c2
  obtain ⟨c0, c1, c2⟩ := three_cells HR2.out
  go_wp2_with fail
  refine (F3.out _).mono ?_
  rintro e w3 ⟨rfl, hb3⟩
  have HR3 := Lib.hid (own_below HR2.out hb3)
  have hB3 := hB2.trans (hb3.mono hB2.size)
  clear hb3 c0 c1 c2
  obtain ⟨c0, c1, c2⟩ := three_cells HR3.out
  go_wp2_with fail
  refine (F4.out _).mono ?_
  rintro e w4 ⟨rfl, hb4⟩
  have hB4 := hB3.trans (hb4.mono hB3.size)
  clear hb4 c0 c1 c2
  generalize Wn.hasOut so la b n = hO at *
  generalize Wn.hasErr so la b n = hE at *
  generalize Wn.err so la b = eE at *
  go_wp2
  go_ret
  exact ⟨by simp, hB4⟩

theorem takeV_form (so : Bool) (la : Int) (b : Nat) (n : Int) : ∃ X0 X1 X2, takeV so la b n = seenV X0 X1 X2 := by
  unfold takeV; split
  · exact ⟨_, _, _, rfl⟩
  · exact ⟨_, _, _, rfl⟩

set_option maxHeartbeats 400000 in
theorem law_WindowTakes (so : Bool) (la : Int) (b : Nat) (n : Int) (w : World) (l0 : -9223372036854775808 ≤ la) (l1 : la ≤ 9223372036854775807) (hb : b < 18446744073709551616) (n0 : -9223372036854775808 ≤ n) (n1 : n ≤ 9223372036854775807) :
    Calls Try.prog 4 #[seenV so la b, .int .i64 n] w fun e w' => e = .returned (.bool true) ∧ Below w.heap.size w w' := by
  have F1 := Lib.hid (fun W => win_Take so la b n W l0 l1 hb n0 n1)
  have F2 := Lib.hid (fun W => ref_WindowTake so la b n W l0 l1 hb n0 n1)
  obtain ⟨X0, X1, X2, hV⟩ := takeV_form so la b n
  rw [hV] at F1 F2
  clear hV
  unfold seenV at *
  obtain ⟨W0, hW0⟩ : ∃ W0, W0 = w.alloc (.cells #[.bool so, .int .i64 la, .int .u64 (b : Int)] 24) := ⟨_, rfl⟩
  have hA : Below w.heap.size w W0 := by rw [hW0]; exact (Below.refl _ _).alloc (Nat.le_refl _) _
  have R0 : W0.ownsRow w.heap.size 24 1 (.slice (some ⟨w.heap.size, 0, none⟩) 3 3) 3 [.bool so, .int .i64 la, .int .u64 (b : Int)] := by rw [hW0]; exact own_three (heap_alloc_last w _) (Nat.le_refl _)
  have HR0 := Lib.hid R0
  clear R0
  go_enter Try.func4, Try.ntmps4
  go_wp2_with fail
  rw [← hW0]
  clear hW0
  refine (F1.out _).mono ?_
  rintro e w1 ⟨rfl, hb1⟩
  have R1 := (own_below HR0.out hb1).alloc (.cells #[.bool X0, .int .i64 X1, .int .u64 (X2 : Int)] 24)
  obtain ⟨c0, c1, c2⟩ := three_cells R1
  have hB1 := hA.trans (hb1.mono hA.size)
  have hB2 := hB1.alloc hB1.size (.cells #[.bool X0, .int .i64 X1, .int .u64 (X2 : Int)] 24)
  have Y1 : (w1.alloc (.cells #[.bool X0, .int .i64 X1, .int .u64 (X2 : Int)] 24)).ownsRow w.heap.size 24 1 (.slice (some ⟨w1.heap.size, 0, none⟩) 3 3) 3 [.bool X0, .int .i64 X1, .int .u64 (X2 : Int)] := own_three (heap_alloc_last w1 _) hB1.size
  have HY1 := Lib.hid Y1
  clear hb1 R1 Y1
  generalize Wn.takeErr so la b n = tE at *
  go_wp2_with fail
  obtain ⟨wx, hwx⟩ : ∃ wx, wx = w1.alloc (.cells #[.bool X0, .int .i64 X1, .int .u64 (X2 : Int)] 24) := ⟨_, rfl⟩
  rw [← hwx] at hB2 HY1 ⊢
  clear c0 c1 c2 hwx
  refine (F2.out _).mono ?_
  rintro e w2 ⟨rfl, hb2⟩
  have Y2 := (own_below HY1.out hb2).alloc (.cells #[.bool X0, .int .i64 X1, .int .u64 (X2 : Int)] 24)
  obtain ⟨d0, d1, d2⟩ := three_cells Y2
  have hB3 := hB2.trans (hb2.mono hB2.size)
  have hB4 := hB3.alloc hB3.size (.cells #[.bool X0, .int .i64 X1, .int .u64 (X2 : Int)] 24)
  clear hb2 Y2 hB1 hB2 hB3
  go_wp2
  go_ret
  exact ⟨by simp, hB4⟩
end Go.Proofs.Ytgcaapehfnmelaa
