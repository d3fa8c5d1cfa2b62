/- The reference's SettingFault: a setting without fields with a field set. -/
import Derived.Test.YthlagpmacnijfaaGreatDoorBatchRef1
namespace Go.Proofs.YthlagpmacnijfaaGreatDoor
open Go.RowKit

set_option maxRecDepth 20000 in
set_option maxHeartbeats 8000000 in
theorem faultMoreZ (k : Int) (hk : k = 3 ∨ k = 5 ∨ k = 9) (t : ByteArray) (n : Int) (a : Nat) (b : Int) (w : World) (h : t.toList.isEmpty = false ∨ n ≠ 0 ∨ a ≠ 0 ∨ b ≠ 0) :
    Calls Tryz.prog 34 #[.agg #[.int .i64 k, .string t, .int .i64 n, .int .u32 (a : Int), .int .i64 b]] w fun e w' => e = .returned (.int .i64 3) ∧ Below w.heap.size w w' := by
  have HB : Hid (∀ o, Below w.heap.size w ((w.alloc (.cells #[.int .i64 k, .string t, .int .i64 n, .int .u32 (a : Int), .int .i64 b] 28)).alloc o)) := Lib.hid (fun o => ((Below.refl _ _).alloc (Nat.le_refl _) _).alloc (by simp) _)
  obtain ⟨ht, hn, hc⟩ := bool_parts t n a b
  rcases hk with rfl | rfl | rfl
  all_goals
    rcases ht with te | rfl
    · clear h
      go_enter Tryz.func34, Tryz.ntmps34
      go_wp2
      go_ret
      exact ⟨rfl, HB.out _⟩
    · rcases hn with n0 | rfl
      · clear h
        go_enter Tryz.func34, Tryz.ntmps34
        go_wp2
        go_ret
        exact ⟨rfl, HB.out _⟩
      · rcases hc with a0 | ⟨rfl, b0⟩ | ⟨rfl, rfl⟩
        · clear h
          go_enter Tryz.func34, Tryz.ntmps34
          go_wp2
          go_ret
          exact ⟨rfl, HB.out _⟩
        · clear h
          go_enter Tryz.func34, Tryz.ntmps34
          go_wp2
          go_ret
          exact ⟨rfl, HB.out _⟩
        · exfalso; simp at h
end Go.Proofs.YthlagpmacnijfaaGreatDoor
