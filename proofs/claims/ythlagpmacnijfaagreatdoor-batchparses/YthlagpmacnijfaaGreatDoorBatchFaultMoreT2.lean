/- The reference's SettingFault: a key or an endpoint with another field set. -/
import Derived.Test.YthlagpmacnijfaaGreatDoorBatchRef1
namespace Go.Proofs.YthlagpmacnijfaaGreatDoor
open Go.RowKit

set_option maxRecDepth 20000 in
set_option maxHeartbeats 8000000 in
theorem faultMoreT2 (k : Int) (hk : k = 6 ∨ k = 7) (t : ByteArray) (n : Int) (a : Nat) (b : Int) (w : World) (h : n ≠ 0 ∨ a ≠ 0 ∨ b ≠ 0) :
    Calls Tryz.prog 34 #[.agg #[.int .i64 k, .string t, .int .i64 n, .int .u32 (a : Int), .int .i64 b]] w fun e w' => e = .returned (.int .i64 3) ∧ Below w.heap.size w w' := by
  have HB : Hid (∀ o, Below w.heap.size w ((w.alloc (.cells #[.int .i64 k, .string t, .int .i64 n, .int .u32 (a : Int), .int .i64 b] 28)).alloc o)) := Lib.hid (fun o => ((Below.refl _ _).alloc (Nat.le_refl _) _).alloc (by simp) _)
  obtain ⟨ht, hn, hc⟩ := bool_parts t n a b
  rcases hk with rfl | rfl
  all_goals
    rcases hn with n0 | rfl
    · clear h
      rcases ht with te | rfl
      all_goals
        go_enter Tryz.func34, Tryz.ntmps34
        go_wp2
        go_ret
        exact ⟨rfl, HB.out _⟩
    · rcases hc with a0 | ⟨rfl, b0⟩ | ⟨rfl, rfl⟩
      · clear h
        rcases ht with te | rfl
        all_goals
          go_enter Tryz.func34, Tryz.ntmps34
          go_wp2
          go_ret
          exact ⟨rfl, HB.out _⟩
      · clear h
        rcases ht with te | rfl
        all_goals
          go_enter Tryz.func34, Tryz.ntmps34
          go_wp2
          go_ret
          exact ⟨rfl, HB.out _⟩
      · exfalso; simp at h
end Go.Proofs.YthlagpmacnijfaaGreatDoor
