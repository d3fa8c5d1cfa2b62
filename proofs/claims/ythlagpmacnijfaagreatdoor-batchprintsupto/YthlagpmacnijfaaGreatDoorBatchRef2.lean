/- The contract of the reference's SettingFault: the settings that have no field too many. -/
import Derived.Test.YthlagpmacnijfaaGreatDoorBatchRef1
import Derived.Deep.RegionHeld3
import Derived.Deep.DeepCutAuto
namespace Go.Proofs.YthlagpmacnijfaaGreatDoor
open Go.RowKit

theorem err_kind {s : Bt.S} (h1 : 1 ≤ s.k) (h2 : s.k ≤ 10) (hm : Bt.more s = false) : Bt.err s = (if Bt.fld s.k = 2 then (if s.n < 0 ∨ 65535 < s.n then 4 else 0) else if Bt.fld s.k = 3 then Nt.err s.a s.b else
    if s.k = 7 then Ad.endErr s.t.data.toList else if s.k = 6 ∧ s.t.size = 0 then 0 else if s.k = 6 ∧ s.t = Bt.zeros then 3 else if Bt.fld s.k = 1 then Hx.checkErr s.t.data.toList else 0) := by
  unfold Bt.err
  rw [if_neg (by omega), if_neg (by rw [hm]; decide)]
theorem box_below (w : World) (o p : Obj) : Below w.heap.size w ((w.alloc o).alloc p) := ((Below.refl _ _).alloc (Nat.le_refl _) _).alloc (by simp) _
set_option maxRecDepth 20000 in
set_option maxHeartbeats 8000000 in
/-- Kinds that have nothing. -/
theorem fault_none (k : Int) (w : World) (hk : k = 3 ∨ k = 5 ∨ k = 9) : Calls Tryz.prog 34 #[setV ⟨k, ⟨#[]⟩, 0, 0, 0⟩] w fun e w' => e = .returned (.int .i64 0) ∧ Below w.heap.size w w' := by
  have HB := Lib.hid (fun o p => box_below w o p)
  unfold setV
  rcases hk with rfl | rfl | rfl
  all_goals
    go_enter Tryz.func34, Tryz.ntmps34
    go_wp2_with fail
    go_quiet (fail)
    go_wp2
    go_ret
    exact ⟨rfl, below_drewN (HB.out _ _) _⟩
set_option maxRecDepth 20000 in
set_option maxHeartbeats 8000000 in
/-- Kinds that have a number. -/
theorem fault_num (k n : Int) (w : World) (hk : k = 2 ∨ k = 8) : Calls Tryz.prog 34 #[setV ⟨k, ⟨#[]⟩, n, 0, 0⟩] w fun e w' => e = .returned (.int .i64 ((if n < 0 ∨ 65535 < n then 4 else 0 : Nat) : Int)) ∧ Below w.heap.size w w' := by
  have HB := Lib.hid (fun o p => box_below w o p)
  unfold setV
  have hn : (n != 0) = true ∨ n = 0 := by
    by_cases h : n = 0
    · exact .inr h
    · exact .inl (by simpa using h)
  by_cases h1 : n < 0
  · have d1 : decide (n < 0) = true := decide_eq_true h1
    have n0 : (n != 0) = true := by simp; omega
    rw [if_pos (.inl h1)]
    clear hn
    rcases hk with rfl | rfl
    all_goals
      go_enter Tryz.func34, Tryz.ntmps34
      go_wp2
      go_ret
      exact ⟨rfl, HB.out _ _⟩
  · have d1 : decide (n < 0) = false := decide_eq_false h1
    by_cases h2 : 65535 < n
    · have d2 : decide (65535 < n) = true := decide_eq_true h2
      have n0 : (n != 0) = true := by simp; omega
      rw [if_pos (.inr h2)]
      clear hn
      rcases hk with rfl | rfl
      all_goals
        go_enter Tryz.func34, Tryz.ntmps34
        go_wp2
        go_ret
        exact ⟨rfl, HB.out _ _⟩
    · have d2 : decide (65535 < n) = false := decide_eq_false h2
      rw [if_neg (by omega)]
      rcases hn with n0 | rfl <;> rcases hk with rfl | rfl
      all_goals
        go_enter Tryz.func34, Tryz.ntmps34
        go_wp2_with fail
        go_quiet (fail)
        go_wp2
        go_ret
        exact ⟨rfl, below_drewN (HB.out _ _) _⟩
set_option maxRecDepth 20000 in
set_option maxHeartbeats 8000000 in
/-- The kind that has a network. -/
theorem fault_net (a : Nat) (b : Int) (w : World) (ha : a < 4294967296) : Calls Tryz.prog 34 #[setV ⟨10, ⟨#[]⟩, 0, a, b⟩] w fun e w' => e = .returned (.int .i64 (Nt.err a b : Int)) ∧ Below w.heap.size w w' := by
  have HB := Lib.hid (fun o p => box_below w o p)
  have HF := Lib.hid (fun W => ref_NetFault a b W ha)
  unfold setV
  unfold netV at HF
  generalize Nt.err a b = r at *
  obtain ⟨_, _, hc⟩ := bool_parts ⟨#[]⟩ 0 a b
  rcases hc with a0 | ⟨rfl, b0⟩ | ⟨rfl, rfl⟩
  all_goals
    go_enter Tryz.func34, Tryz.ntmps34
    go_wp2_with fail
    refine (HF.out _).mono ?_
    rintro e w2 ⟨rfl, hb2⟩
    have hb := (HB.out _ _).trans (hb2.mono (HB.out _ _).size)
    clear hb2
    go_wp2
    go_ret
    exact ⟨rfl, hb⟩
end Go.Proofs.YthlagpmacnijfaaGreatDoor
