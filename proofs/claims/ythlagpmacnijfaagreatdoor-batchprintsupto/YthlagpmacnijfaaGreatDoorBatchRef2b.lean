/- The contract of the reference's SettingFault: kinds with a text. -/
import Derived.Test.YthlagpmacnijfaaGreatDoorBatchRef1
import Derived.Deep.RegionHeld3
import Derived.Deep.DeepCutAuto
namespace Go.Proofs.YthlagpmacnijfaaGreatDoor
open Go.RowKit

theorem box_below2 (w : World) (o p : Obj) : Below w.heap.size w ((w.alloc o).alloc p) := ((Below.refl _ _).alloc (Nat.le_refl _) _).alloc (by simp) _
set_option maxRecDepth 20000 in
set_option maxHeartbeats 8000000 in
/-- The kind that has an endpoint. -/
theorem fault_end (t : ByteArray) (w : World) (hs : t.size ≤ 1048576) (hT : AllTabs w) : Calls Tryz.prog 34 #[setV ⟨7, t, 0, 0, 0⟩] w fun e w' => e = .returned (.int .i64 (Ad.endErr t.data.toList : Int)) ∧ Below w.heap.size w w' := by
  have HB := Lib.hid (fun o p => box_below2 w o p)
  have HF := Lib.hid (fun W (hW : Below w.heap.size w W) => ref_EndOf t W hs (hT.1.below hW) (hT.2.1.below hW) (hT.2.2.below hW))
  obtain ⟨ht, _, _⟩ := bool_parts t 0 0 0
  unfold setV
  clear hT hs
  generalize Ad.endErr t.data.toList = r at *
  generalize Ad.endAddr t.data.toList = r1 at *
  generalize Ad.endPort t.data.toList = r2 at *
  rcases ht with te | rfl
  all_goals
    go_enter Tryz.func34, Tryz.ntmps34
    go_wp2_with fail
    refine (HF.out _ (HB.out _ _)).mono ?_
    rintro e w2 ⟨rfl, hb2⟩
    have hb := (HB.out _ _).trans (hb2.mono (HB.out _ _).size)
    clear hb2
    go_wp2
    go_ret
    exact ⟨rfl, hb⟩
set_option maxRecDepth 20000 in
set_option maxHeartbeats 8000000 in
/-- Kinds that have a key. -/
theorem fault_key (k : Int) (t : ByteArray) (w : World) (hk : k = 1 ∨ k = 4) (hs : t.size ≤ maxLen) : Calls Tryz.prog 34 #[setV ⟨k, t, 0, 0, 0⟩] w fun e w' => e = .returned (.int .i64 (Hx.checkErr t.data.toList : Int)) ∧ Below w.heap.size w w' := by
  have HB := Lib.hid (fun o p q => below_drewN (box_below2 w o p) q)
  have HF := Lib.hid (fun W => ref_HexFault t W hs)
  obtain ⟨ht, _, _⟩ := bool_parts t 0 0 0
  unfold setV
  clear hs
  generalize Hx.checkErr t.data.toList = r at *
  rcases ht with te | rfl <;> rcases hk with rfl | rfl
  all_goals
    go_enter Tryz.func34, Tryz.ntmps34
    go_wp2_with fail
    go_quiet (fail)
    go_wp2_with fail
    refine (HF.out _).mono ?_
    rintro e w2 ⟨rfl, hb2⟩
    have hb := (HB.out _ _ _).trans (hb2.mono (HB.out _ _ _).size)
    clear hb2
    go_wp2
    go_ret
    exact ⟨rfl, hb⟩
set_option maxRecDepth 20000 in
set_option maxHeartbeats 8000000 in
/-- The kind that has a key or none. -/
theorem fault_shared (t : ByteArray) (w : World) (hs : t.size ≤ maxLen) : Calls Tryz.prog 34 #[setV ⟨6, t, 0, 0, 0⟩] w fun e w' => e = .returned (.int .i64 ((if t.size = 0 then 0 else if t = Bt.zeros then 3 else Hx.checkErr t.data.toList : Nat) : Int)) ∧ Below w.heap.size w w' := by
  have HB := Lib.hid (fun o p => box_below2 w o p)
  by_cases h0 : t.size = 0
  · have te : t.toList.isEmpty = true := by rw [empty_size, decide_eq_true h0]
    rw [if_pos h0]
    unfold setV
    clear h0 hs
    go_enter Tryz.func34, Tryz.ntmps34
    go_wp2
    go_ret
    exact ⟨rfl, HB.out _ _⟩
  · have te : t.toList.isEmpty = false := by rw [empty_size, decide_eq_false h0]
    rw [if_neg h0]
    have HF := Lib.hid (fun W => ref_HexFault t W hs)
    obtain ⟨w2, hw2⟩ : ∃ w2, w2 = (w.alloc (.cells #[.int .i64 6, .string t, .int .i64 0, .int .u32 0, .int .i64 0] 28)).alloc (.cells #[.string ⟨#[]⟩, .string ⟨#[116]⟩, .string ⟨#[110]⟩, .string ⟨#[]⟩, .string ⟨#[116]⟩, .string ⟨#[]⟩, .string ⟨#[116]⟩, .string ⟨#[116]⟩, .string ⟨#[110]⟩, .string ⟨#[]⟩, .string ⟨#[99]⟩] 9) := ⟨_, rfl⟩
    have HW := Lib.hid hw2
    have HG := Lib.hid (show Blk w2 w.heap.size 28 [.int .i64 6, .string t, .int .i64 0, .int .u32 0, .int .i64 0] by rw [hw2]; exact (Blk.new w 28 [.int .i64 6, .string t, .int .i64 0, .int .u32 0, .int .i64 0]).kept ((Below.refl _ _).alloc (Nat.le_refl _) _))
    have HB2 := Lib.hid (show Below w.heap.size w w2 by rw [hw2]; exact HB.out _ _)
    have HS : Hid (∀ W, Below w2.heap.size w2 W → W.cell? ⟨w.heap.size, 0, none⟩ = some (.int .i64 6) ∧ W.cell? ⟨w.heap.size, 1, none⟩ = some (.string t) ∧ Below w2.heap.size w2 W) := Lib.hid fun W hW => ⟨(HG.out.kept hW).cell 0 rfl, (HG.out.kept hW).cell 1 rfl, hW⟩
    have HZ : Hid (∀ W, (W.cell? ⟨w.heap.size, 0, none⟩ = some (.int .i64 6) ∧ W.cell? ⟨w.heap.size, 1, none⟩ = some (.string t) ∧ Below w2.heap.size w2 W) → Calls Tryz.prog 36 #[] W fun e W' => e = .returned (.string Bt.zeros) ∧ (W'.cell? ⟨w.heap.size, 0, none⟩ = some (.int .i64 6) ∧ W'.cell? ⟨w.heap.size, 1, none⟩ = some (.string t) ∧ Below w2.heap.size w2 W')) :=
      Lib.hid fun W hW => (ref_zeros W).mono fun e W' ⟨he, hb⟩ => ⟨he, HS.out W' (hW.2.2.trans (hb.mono hW.2.2.size))⟩
    obtain ⟨c0, c1, _⟩ := HS.out w2 (Below.refl _ _)
    unfold setV
    clear h0 hs hw2
    by_cases hz : t = Bt.zeros
    · rw [if_pos hz]
      have dz : (t.toList == Bt.zeros.toList) = true := by rw [hz]; simp
      clear hz HF
      generalize Bt.zeros = Z at *
      go_enter Tryz.func34, Tryz.ntmps34
      go_upto_region 15 with fail
      rw [← HW.out]
      go_region_held3 (fun W => W.cell? ⟨w.heap.size, 0, none⟩ = some (.int .i64 6) ∧ W.cell? ⟨w.heap.size, 1, none⟩ = some (.string t) ∧ Below w2.heap.size w2 W) (first | assumption | (exact ⟨c0, c1, (Below.refl _ _).drew⟩))
        (first | (go_at_call 36; refine (HZ.out _ (by first | assumption | exact ⟨c0, c1, (Below.refl _ _).drew⟩)).mono ?_; rintro e w3 ⟨rfl, hS3⟩))
      have hb := HB2.out.trans (hS3.2.2.mono HB2.out.size)
      clear hS3 c0 c1
      go_wp2
      go_ret
      exact ⟨rfl, hb⟩
    · rw [if_neg hz]
      have dz : (t.toList == Bt.zeros.toList) = false := by
        refine beq_eq_false_iff_ne.2 fun e => hz ?_
        rw [ByteArray.toList_eq, ByteArray.toList_eq] at e
        exact WideShapes.bytes_inj e
      clear hz
      generalize Bt.zeros = Z at *
      generalize Hx.checkErr t.data.toList = r at *
      go_enter Tryz.func34, Tryz.ntmps34
      go_upto_region 15 with fail
      rw [← HW.out]
      go_region_held3 (fun W => W.cell? ⟨w.heap.size, 0, none⟩ = some (.int .i64 6) ∧ W.cell? ⟨w.heap.size, 1, none⟩ = some (.string t) ∧ Below w2.heap.size w2 W) (first | assumption | (exact ⟨c0, c1, (Below.refl _ _).drew⟩))
        (first | (go_at_call 36; refine (HZ.out _ (by first | assumption | exact ⟨c0, c1, (Below.refl _ _).drew⟩)).mono ?_; rintro e w3 ⟨rfl, hS3⟩))
      have hb := HB2.out.trans (hS3.2.2.mono HB2.out.size)
      obtain ⟨_, k1, _⟩ := hS3
      clear c0 c1
      go_wp2_with fail
      refine (HF.out _).mono ?_
      rintro e w4 ⟨rfl, hb4⟩
      have hb' := hb.trans (hb4.mono hb.size)
      clear hb4 hb k1
      go_wp2
      go_ret
      exact ⟨rfl, hb'⟩
end Go.Proofs.YthlagpmacnijfaaGreatDoor
