/- The contract of the reference's SettingFault. -/
import Derived.Test.YthlagpmacnijfaaGreatDoorBatchBits
import Derived.Test.YthlagpmacnijfaaGreatDoorBatchMem
import Derived.Test.YthlagpmacnijfaaGreatDoorStructMem
import Derived.Test.YthlagpmacnijfaaGreatDoorHexFaultRef
import Derived.Test.YthlagpmacnijfaaGreatDoorAddrRef4
import Derived.Test.YthlagpmacnijfaaGreatDoorNetRef1
import Derived.Test.YthlagpmacnijfaaGreatDoorShelfRepeat
import Derived.Laws.StructEq
import Derived.BigQuiet
namespace Go.Proofs.YthlagpmacnijfaaGreatDoor
open Go.RowKit

theorem ref_zeros (w : World) : Calls Tryz.prog 36 #[] w fun e w' => e = .returned (.string Bt.zeros) ∧ Below w.heap.size w w' := by
  have H := Lib.hid (Tryz.strings_Repeat ⟨#[48]⟩ 64 w (by decide) (by decide))
  go_enter Tryz.func36, Tryz.ntmps36
  go_wp2_with fail
  refine H.out.mono ?_
  rintro e w1 ⟨rfl, hb⟩
  go_wp2
  go_ret
  exact ⟨rfl, hb⟩
/-- Something is set that the kind has not. -/
theorem more_cases (s : Bt.S) (h1 : 1 ≤ s.k) (h2 : s.k ≤ 10) : (Bt.more s = true → Bt.err s = 3) := by
  intro h
  unfold Bt.err
  rw [if_neg (by omega), if_pos h]

set_option maxRecDepth 20000 in
set_option maxHeartbeats 4000000 in
theorem ref_SettingFault_kind (s : Bt.S) (w : World) (h : s.k < 1 ∨ 10 < s.k) : Calls Tryz.prog 34 #[setV s] w fun e w' => e = .returned (.int .i64 (Bt.err s : Int)) ∧ Below w.heap.size w w' := by
  have Hr := Lib.hid (show Bt.err s = 2 by unfold Bt.err; rw [if_pos h])
  obtain ⟨k, t, n, a, b⟩ := s
  have HB : Hid (Below w.heap.size w (w.alloc (.cells #[.int .i64 k, .string t, .int .i64 n, .int .u32 (a : Int), .int .i64 b] 28))) := Lib.hid ((Below.refl _ _).alloc (Nat.le_refl _) _)
  unfold setV
  simp only at h ⊢
  rcases h with h | h
  · have d1 : decide (k < 1) = true := decide_eq_true h
    go_enter Tryz.func34, Tryz.ntmps34
    go_wp2
    go_ret
    exact ⟨by rw [Hr.out]; rfl, HB.out⟩
  · have d1 : decide (k < 1) = false := decide_eq_false (by omega)
    have d2 : decide (10 < k) = true := decide_eq_true h
    go_enter Tryz.func34, Tryz.ntmps34
    go_wp2
    go_ret
    exact ⟨by rw [Hr.out]; rfl, HB.out⟩
end Go.Proofs.YthlagpmacnijfaaGreatDoor
