/- What the landed code guesses of a line; nothing of the program is named here. -/
import Derived.Test.YthlagpmacnijfaaGreatDoorBatchBits
import Derived.Test.YthlagpmacnijfaaGreatDoorBatchMem
import Derived.Test.YthlagpmacnijfaaGreatDoorHexWalks
import Derived.Laws.StructEq
import Derived.BigQuiet
import Derived.Test.YthlagpmacnijfaaGreatDoorSp10
import Derived.Test.YthlagpmacnijfaaGreatDoorSp09
import Derived.StillTailTactics
import Derived.Test.YthlagpmacnijfaaGreatDoorSp04
import Derived.Test.YthlagpmacnijfaaGreatDoorSp02
import Derived.Deep.DeepCutAuto
namespace Go.Proofs.YthlagpmacnijfaaGreatDoor
open Go.RowKit

set_option maxRecDepth 20000 in
set_option maxHeartbeats 8000000 in
theorem batch_hasOthers (k : Int) (t : ByteArray) (n : Int) (a : Nat) (b : Int) (f : Nat) (hf : f ≤ 3) (w : World) :
    Calls Tryz.prog 46 #[setV ⟨k, t, n, a, b⟩, .int .i64 (f : Int)] w fun e w' => e = .returned (.bool (Bt.others t n a b f)) ∧ Below w.heap.size w w' := by
  have HB : Hid (∀ o, Below w.heap.size w (w.alloc o)) := Lib.hid fun o => (Below.refl _ _).alloc (Nat.le_refl _) _
  obtain ⟨ht, hn, hc⟩ := bool_parts t n a b
  unfold setV
  have h4 : f = 0 ∨ f = 1 ∨ f = 2 ∨ f = 3 := by omega
  clear hf
  rcases h4 with rfl | rfl | rfl | rfl <;> rcases ht with te | rfl <;> rcases hn with n0 | rfl <;> rcases hc with a0 | ⟨rfl, b0⟩ | ⟨rfl, rfl⟩
  all_goals
    go_enter Tryz.func46, Tryz.ntmps46
    go_wp2
    go_ret
    exact ⟨by simp [Bt.others, *], HB.out _⟩
theorem batch_checkNumber (n m : Int) (w : World) :
    Calls Tryz.prog 50 #[.int .i64 n, .int .i64 m] w fun e w' => e = .returned (.int .i64 ((if n < 0 ∨ m < n then 4 else 0 : Nat) : Int)) ∧ w = w' := by
  by_cases h1 : n < 0
  · have d1 : decide (n < 0) = true := decide_eq_true h1
    rw [if_pos (.inl h1)]
    go_enter Tryz.func50, Tryz.ntmps50
    go_wp2
    go_ret
    exact ⟨rfl, rfl⟩
  · have d1 : decide (n < 0) = false := decide_eq_false h1
    by_cases h2 : m < n
    · have d2 : decide (m < n) = true := decide_eq_true h2
      rw [if_pos (.inr h2)]
      go_enter Tryz.func50, Tryz.ntmps50
      go_wp2
      go_ret
      exact ⟨rfl, rfl⟩
    · have d2 : decide (m < n) = false := decide_eq_false h2
      rw [if_neg (by omega)]
      go_enter Tryz.func50, Tryz.ntmps50
      go_wp2
      go_ret
      exact ⟨rfl, rfl⟩
set_option maxRecDepth 20000 in
set_option maxHeartbeats 4000000 in
theorem batch_checkShared (t : ByteArray) (w : World) (hs : t.size ≤ maxLen) :
    Calls Tryz.prog 48 #[.string t] w fun e w' => e = .returned (.int .i64 ((if t.size = 0 then 0 else if t = Bt.zeros then 3 else Hx.checkErr t.data.toList : Nat) : Int)) ∧ w = w' := by
  by_cases h0 : t.size = 0
  · have te : t.toList.isEmpty = true := by rw [empty_size, decide_eq_true h0]
    rw [if_pos h0]
    clear hs h0
    go_enter Tryz.func48, Tryz.ntmps48
    go_wp2
    go_ret
    exact ⟨rfl, rfl⟩
  · have te : t.toList.isEmpty = false := by rw [empty_size, decide_eq_false h0]
    rw [if_neg h0]
    clear h0
    rw [Bt.zeros_lit]
    by_cases hz : t = ⟨#[48, 48, 48, 48, 48, 48, 48, 48, 48, 48, 48, 48, 48, 48, 48, 48, 48, 48, 48, 48, 48, 48, 48, 48, 48, 48, 48, 48, 48, 48, 48, 48, 48, 48, 48, 48, 48, 48, 48, 48, 48, 48, 48, 48, 48, 48, 48, 48, 48, 48, 48, 48, 48, 48, 48, 48, 48, 48, 48, 48, 48, 48, 48, 48]⟩
    · rw [if_pos hz]
      have dz : (t.toList == [48, 48, 48, 48, 48, 48, 48, 48, 48, 48, 48, 48, 48, 48, 48, 48, 48, 48, 48, 48, 48, 48, 48, 48, 48, 48, 48, 48, 48, 48, 48, 48, 48, 48, 48, 48, 48, 48, 48, 48, 48, 48, 48, 48, 48, 48, 48, 48, 48, 48, 48, 48, 48, 48, 48, 48, 48, 48, 48, 48, 48, 48, 48, 48]) = true := by rw [hz, ByteArray.toList_eq]; decide
      clear hz hs
      go_enter Tryz.func48, Tryz.ntmps48
      go_wp2
      go_ret
      exact ⟨rfl, rfl⟩
    · rw [if_neg hz]
      have dz : (t.toList == [48, 48, 48, 48, 48, 48, 48, 48, 48, 48, 48, 48, 48, 48, 48, 48, 48, 48, 48, 48, 48, 48, 48, 48, 48, 48, 48, 48, 48, 48, 48, 48, 48, 48, 48, 48, 48, 48, 48, 48, 48, 48, 48, 48, 48, 48, 48, 48, 48, 48, 48, 48, 48, 48, 48, 48, 48, 48, 48, 48, 48, 48, 48, 48]) = false := by
        refine beq_eq_false_iff_ne.2 fun e => hz ?_
        rw [ByteArray.toList_eq] at e
        exact WideShapes.bytes_inj (by rw [e])
      have HF := Lib.hid (hex_Check t w hs)
      clear hz hs
      generalize Hx.checkErr t.data.toList = r at *
      go_enter Tryz.func48, Tryz.ntmps48
      go_wp2_with fail
      refine HF.out.mono ?_
      rintro e w1 ⟨rfl, rfl⟩
      go_wp2
      go_ret
      exact ⟨rfl, rfl⟩
end Go.Proofs.YthlagpmacnijfaaGreatDoor

namespace Go.Proofs.YthlagpmacnijfaaGreatDoor
open Go.RowKit

set_option maxRecDepth 20000 in
set_option maxHeartbeats 8000000 in
/-- Kinds that have nothing. -/
theorem check_none (k : Int) (hk : k = 3 ∨ k = 5 ∨ k = 9) (t : ByteArray) (n : Int) (a : Nat) (b : Int) (w : World) (hT : BTabs w) :
    Calls Tryz.prog 27 #[setV ⟨k, t, n, a, b⟩] w fun e w' => e = .returned (.int .i64 ((if Bt.others t n a b 0 = true then 3 else 0 : Nat) : Int)) ∧ Below w.heap.size w w' := by
  have HO := Lib.hid (fun k W => batch_hasOthers k t n a b 0 (by decide) W)
  have hlt := hT.2.1
  have HT := Lib.hid hT
  unfold setV at HO ⊢
  generalize Bt.others t n a b 0 = r at *
  cases r with
  | true =>
    rw [if_pos rfl]
    rcases hk with rfl | rfl | rfl
    · obtain ⟨w1, hw1⟩ : ∃ w1, w1 = w.alloc (.cells #[.int .i64 3, .string t, .int .i64 n, .int .u32 (a : Int), .int .i64 b] 28) := ⟨_, rfl⟩
      have hA : Below w.heap.size w w1 := by rw [hw1]; exact (Below.refl _ _).alloc (Nat.le_refl _) _
      have c := (hT.2.below hA).at 3 (by decide) 7 0 rfl rfl
      have HA := Lib.hid hA.drew
      have HG := Lib.hid (show Blk w1 w.heap.size 28 [.int .i64 3, .string t, .int .i64 n, .int .u32 (a : Int), .int .i64 b] by rw [hw1]; exact Blk.new w _ _)
      obtain ⟨⟨b0, b1, b2, b3, b4⟩, -⟩ := HG.out.facts5
      have q : ∀ ad : Addr, ({ heap := w1.heap, tape := w1.tape, drawn := w1.drawn + 1, os := w1.os, output := w1.output } : World).cell? ad = w1.cell? ad := fun _ => rfl
      clear hT hA
      go_enter Tryz.func27, Tryz.ntmps27
      go_wp2_with fail
      rw [← hw1]
      clear hw1
      go_still_tail 6, (by kernel_rfl)
      change wpList _ _ _ _ _ w1.drew
      clear q c b0 b1 b2 b3 b4
      obtain ⟨wd, hwd⟩ : ∃ wd, wd = w1.drew := ⟨_, rfl⟩
      have HGd := Lib.hid (show Blk wd w.heap.size 28 [.int .i64 3, .string t, .int .i64 n, .int .u32 (a : Int), .int .i64 b] by rw [hwd]; exact HG.out)
      rw [← hwd] at HA ⊢
      clear hwd HG
      go_wp2_with fail
      refine (HO.out 3 wd).mono ?_
      rintro e w2 ⟨rfl, hb2⟩
      have hG2 := HGd.out.kept hb2
      have HB2 := Lib.hid (HA.out.trans (hb2.mono HA.out.size))
      obtain ⟨⟨b0, b1, b2, b3, b4⟩, -⟩ := hG2.facts5
      have hgl := hG2.lt
      clear hb2 hG2 HGd HA HO
      go_wp2
      go_ret
      exact ⟨rfl, HB2.out⟩
    · obtain ⟨w1, hw1⟩ : ∃ w1, w1 = w.alloc (.cells #[.int .i64 5, .string t, .int .i64 n, .int .u32 (a : Int), .int .i64 b] 28) := ⟨_, rfl⟩
      have hA : Below w.heap.size w w1 := by rw [hw1]; exact (Below.refl _ _).alloc (Nat.le_refl _) _
      have c := (hT.2.below hA).at 5 (by decide) 11 0 rfl rfl
      have HA := Lib.hid hA.drew
      have HG := Lib.hid (show Blk w1 w.heap.size 28 [.int .i64 5, .string t, .int .i64 n, .int .u32 (a : Int), .int .i64 b] by rw [hw1]; exact Blk.new w _ _)
      obtain ⟨⟨b0, b1, b2, b3, b4⟩, -⟩ := HG.out.facts5
      have q : ∀ ad : Addr, ({ heap := w1.heap, tape := w1.tape, drawn := w1.drawn + 1, os := w1.os, output := w1.output } : World).cell? ad = w1.cell? ad := fun _ => rfl
      clear hT hA
      go_enter Tryz.func27, Tryz.ntmps27
      go_wp2_with fail
      rw [← hw1]
      clear hw1
      go_still_tail 6, (by kernel_rfl)
      change wpList _ _ _ _ _ w1.drew
      clear q c b0 b1 b2 b3 b4
      obtain ⟨wd, hwd⟩ : ∃ wd, wd = w1.drew := ⟨_, rfl⟩
      have HGd := Lib.hid (show Blk wd w.heap.size 28 [.int .i64 5, .string t, .int .i64 n, .int .u32 (a : Int), .int .i64 b] by rw [hwd]; exact HG.out)
      rw [← hwd] at HA ⊢
      clear hwd HG
      go_wp2_with fail
      refine (HO.out 5 wd).mono ?_
      rintro e w2 ⟨rfl, hb2⟩
      have hG2 := HGd.out.kept hb2
      have HB2 := Lib.hid (HA.out.trans (hb2.mono HA.out.size))
      obtain ⟨⟨b0, b1, b2, b3, b4⟩, -⟩ := hG2.facts5
      have hgl := hG2.lt
      clear hb2 hG2 HGd HA HO
      go_wp2
      go_ret
      exact ⟨rfl, HB2.out⟩
    · obtain ⟨w1, hw1⟩ : ∃ w1, w1 = w.alloc (.cells #[.int .i64 9, .string t, .int .i64 n, .int .u32 (a : Int), .int .i64 b] 28) := ⟨_, rfl⟩
      have hA : Below w.heap.size w w1 := by rw [hw1]; exact (Below.refl _ _).alloc (Nat.le_refl _) _
      have c := (hT.2.below hA).at 9 (by decide) 19 0 rfl rfl
      have HA := Lib.hid hA.drew
      have HG := Lib.hid (show Blk w1 w.heap.size 28 [.int .i64 9, .string t, .int .i64 n, .int .u32 (a : Int), .int .i64 b] by rw [hw1]; exact Blk.new w _ _)
      obtain ⟨⟨b0, b1, b2, b3, b4⟩, -⟩ := HG.out.facts5
      have q : ∀ ad : Addr, ({ heap := w1.heap, tape := w1.tape, drawn := w1.drawn + 1, os := w1.os, output := w1.output } : World).cell? ad = w1.cell? ad := fun _ => rfl
      clear hT hA
      go_enter Tryz.func27, Tryz.ntmps27
      go_wp2_with fail
      rw [← hw1]
      clear hw1
      go_still_tail 6, (by kernel_rfl)
      change wpList _ _ _ _ _ w1.drew
      clear q c b0 b1 b2 b3 b4
      obtain ⟨wd, hwd⟩ : ∃ wd, wd = w1.drew := ⟨_, rfl⟩
      have HGd := Lib.hid (show Blk wd w.heap.size 28 [.int .i64 9, .string t, .int .i64 n, .int .u32 (a : Int), .int .i64 b] by rw [hwd]; exact HG.out)
      rw [← hwd] at HA ⊢
      clear hwd HG
      go_wp2_with fail
      refine (HO.out 9 wd).mono ?_
      rintro e w2 ⟨rfl, hb2⟩
      have hG2 := HGd.out.kept hb2
      have HB2 := Lib.hid (HA.out.trans (hb2.mono HA.out.size))
      obtain ⟨⟨b0, b1, b2, b3, b4⟩, -⟩ := hG2.facts5
      have hgl := hG2.lt
      clear hb2 hG2 HGd HA HO
      go_wp2
      go_ret
      exact ⟨rfl, HB2.out⟩
  | false =>
    rw [if_neg (by decide)]
    rcases hk with rfl | rfl | rfl
    · obtain ⟨w1, hw1⟩ : ∃ w1, w1 = w.alloc (.cells #[.int .i64 3, .string t, .int .i64 n, .int .u32 (a : Int), .int .i64 b] 28) := ⟨_, rfl⟩
      have hA : Below w.heap.size w w1 := by rw [hw1]; exact (Below.refl _ _).alloc (Nat.le_refl _) _
      have c := (hT.2.below hA).at 3 (by decide) 7 0 rfl rfl
      have HA := Lib.hid hA.drew
      have HG := Lib.hid (show Blk w1 w.heap.size 28 [.int .i64 3, .string t, .int .i64 n, .int .u32 (a : Int), .int .i64 b] by rw [hw1]; exact Blk.new w _ _)
      obtain ⟨⟨b0, b1, b2, b3, b4⟩, -⟩ := HG.out.facts5
      have q : ∀ ad : Addr, ({ heap := w1.heap, tape := w1.tape, drawn := w1.drawn + 1, os := w1.os, output := w1.output } : World).cell? ad = w1.cell? ad := fun _ => rfl
      clear hT hA
      go_enter Tryz.func27, Tryz.ntmps27
      go_wp2_with fail
      rw [← hw1]
      clear hw1
      go_still_tail 6, (by kernel_rfl)
      change wpList _ _ _ _ _ w1.drew
      clear q c b0 b1 b2 b3 b4
      obtain ⟨wd, hwd⟩ : ∃ wd, wd = w1.drew := ⟨_, rfl⟩
      have HGd := Lib.hid (show Blk wd w.heap.size 28 [.int .i64 3, .string t, .int .i64 n, .int .u32 (a : Int), .int .i64 b] by rw [hwd]; exact HG.out)
      rw [← hwd] at HA ⊢
      clear hwd HG
      go_wp2_with fail
      refine (HO.out 3 wd).mono ?_
      rintro e w2 ⟨rfl, hb2⟩
      have hG2 := HGd.out.kept hb2
      have HB2 := Lib.hid (HA.out.trans (hb2.mono HA.out.size))
      obtain ⟨⟨b0, b1, b2, b3, b4⟩, -⟩ := hG2.facts5
      have hgl := hG2.lt
      clear hb2 hG2 HGd HA HO
      go_wp2
      go_ret
      exact ⟨rfl, HB2.out⟩
    · obtain ⟨w1, hw1⟩ : ∃ w1, w1 = w.alloc (.cells #[.int .i64 5, .string t, .int .i64 n, .int .u32 (a : Int), .int .i64 b] 28) := ⟨_, rfl⟩
      have hA : Below w.heap.size w w1 := by rw [hw1]; exact (Below.refl _ _).alloc (Nat.le_refl _) _
      have c := (hT.2.below hA).at 5 (by decide) 11 0 rfl rfl
      have HA := Lib.hid hA.drew
      have HG := Lib.hid (show Blk w1 w.heap.size 28 [.int .i64 5, .string t, .int .i64 n, .int .u32 (a : Int), .int .i64 b] by rw [hw1]; exact Blk.new w _ _)
      obtain ⟨⟨b0, b1, b2, b3, b4⟩, -⟩ := HG.out.facts5
      have q : ∀ ad : Addr, ({ heap := w1.heap, tape := w1.tape, drawn := w1.drawn + 1, os := w1.os, output := w1.output } : World).cell? ad = w1.cell? ad := fun _ => rfl
      clear hT hA
      go_enter Tryz.func27, Tryz.ntmps27
      go_wp2_with fail
      rw [← hw1]
      clear hw1
      go_still_tail 6, (by kernel_rfl)
      change wpList _ _ _ _ _ w1.drew
      clear q c b0 b1 b2 b3 b4
      obtain ⟨wd, hwd⟩ : ∃ wd, wd = w1.drew := ⟨_, rfl⟩
      have HGd := Lib.hid (show Blk wd w.heap.size 28 [.int .i64 5, .string t, .int .i64 n, .int .u32 (a : Int), .int .i64 b] by rw [hwd]; exact HG.out)
      rw [← hwd] at HA ⊢
      clear hwd HG
      go_wp2_with fail
      refine (HO.out 5 wd).mono ?_
      rintro e w2 ⟨rfl, hb2⟩
      have hG2 := HGd.out.kept hb2
      have HB2 := Lib.hid (HA.out.trans (hb2.mono HA.out.size))
      obtain ⟨⟨b0, b1, b2, b3, b4⟩, -⟩ := hG2.facts5
      have hgl := hG2.lt
      clear hb2 hG2 HGd HA HO
      go_wp2
      go_ret
      exact ⟨rfl, HB2.out⟩
    · obtain ⟨w1, hw1⟩ : ∃ w1, w1 = w.alloc (.cells #[.int .i64 9, .string t, .int .i64 n, .int .u32 (a : Int), .int .i64 b] 28) := ⟨_, rfl⟩
      have hA : Below w.heap.size w w1 := by rw [hw1]; exact (Below.refl _ _).alloc (Nat.le_refl _) _
      have c := (hT.2.below hA).at 9 (by decide) 19 0 rfl rfl
      have HA := Lib.hid hA.drew
      have HG := Lib.hid (show Blk w1 w.heap.size 28 [.int .i64 9, .string t, .int .i64 n, .int .u32 (a : Int), .int .i64 b] by rw [hw1]; exact Blk.new w _ _)
      obtain ⟨⟨b0, b1, b2, b3, b4⟩, -⟩ := HG.out.facts5
      have q : ∀ ad : Addr, ({ heap := w1.heap, tape := w1.tape, drawn := w1.drawn + 1, os := w1.os, output := w1.output } : World).cell? ad = w1.cell? ad := fun _ => rfl
      clear hT hA
      go_enter Tryz.func27, Tryz.ntmps27
      go_wp2_with fail
      rw [← hw1]
      clear hw1
      go_still_tail 6, (by kernel_rfl)
      change wpList _ _ _ _ _ w1.drew
      clear q c b0 b1 b2 b3 b4
      obtain ⟨wd, hwd⟩ : ∃ wd, wd = w1.drew := ⟨_, rfl⟩
      have HGd := Lib.hid (show Blk wd w.heap.size 28 [.int .i64 9, .string t, .int .i64 n, .int .u32 (a : Int), .int .i64 b] by rw [hwd]; exact HG.out)
      rw [← hwd] at HA ⊢
      clear hwd HG
      go_wp2_with fail
      refine (HO.out 9 wd).mono ?_
      rintro e w2 ⟨rfl, hb2⟩
      have hG2 := HGd.out.kept hb2
      have HB2 := Lib.hid (HA.out.trans (hb2.mono HA.out.size))
      obtain ⟨⟨b0, b1, b2, b3, b4⟩, -⟩ := hG2.facts5
      have hgl := hG2.lt
      clear hb2 hG2 HGd HA HO
      go_wp2
      go_ret
      exact ⟨rfl, HB2.out⟩
set_option maxRecDepth 20000 in
set_option maxHeartbeats 8000000 in
/-- Kinds that have a number. -/
theorem check_num (k : Int) (hk : k = 2 ∨ k = 8) (t : ByteArray) (n : Int) (a : Nat) (b : Int) (w : World) (hT : BTabs w) :
    Calls Tryz.prog 27 #[setV ⟨k, t, n, a, b⟩] w fun e w' => e = .returned (.int .i64 ((if Bt.others t n a b 2 = true then 3 else if n < 0 ∨ 65535 < n then 4 else 0 : Nat) : Int)) ∧ Below w.heap.size w w' := by
  have HO := Lib.hid (fun k W => batch_hasOthers k t n a b 2 (by decide) W)
  have HF := Lib.hid (fun W => batch_checkNumber n 65535 W)
  generalize (if n < 0 ∨ 65535 < n then 4 else 0 : Nat) = z at *
  have hlt := hT.2.1
  have HT := Lib.hid hT
  unfold setV at HO ⊢
  generalize Bt.others t n a b 2 = r at *
  cases r with
  | true =>
    rw [if_pos rfl]
    rcases hk with rfl | rfl
    · obtain ⟨w1, hw1⟩ : ∃ w1, w1 = w.alloc (.cells #[.int .i64 2, .string t, .int .i64 n, .int .u32 (a : Int), .int .i64 b] 28) := ⟨_, rfl⟩
      have hA : Below w.heap.size w w1 := by rw [hw1]; exact (Below.refl _ _).alloc (Nat.le_refl _) _
      have c := (hT.2.below hA).at 2 (by decide) 5 2 rfl rfl
      have HA := Lib.hid hA.drew
      have HG := Lib.hid (show Blk w1 w.heap.size 28 [.int .i64 2, .string t, .int .i64 n, .int .u32 (a : Int), .int .i64 b] by rw [hw1]; exact Blk.new w _ _)
      obtain ⟨⟨b0, b1, b2, b3, b4⟩, -⟩ := HG.out.facts5
      have q : ∀ ad : Addr, ({ heap := w1.heap, tape := w1.tape, drawn := w1.drawn + 1, os := w1.os, output := w1.output } : World).cell? ad = w1.cell? ad := fun _ => rfl
      clear hT hA
      go_enter Tryz.func27, Tryz.ntmps27
      go_wp2_with fail
      rw [← hw1]
      clear hw1
      go_still_tail 6, (by kernel_rfl)
      change wpList _ _ _ _ _ w1.drew
      clear q c b0 b1 b2 b3 b4
      obtain ⟨wd, hwd⟩ : ∃ wd, wd = w1.drew := ⟨_, rfl⟩
      have HGd := Lib.hid (show Blk wd w.heap.size 28 [.int .i64 2, .string t, .int .i64 n, .int .u32 (a : Int), .int .i64 b] by rw [hwd]; exact HG.out)
      rw [← hwd] at HA ⊢
      clear hwd HG
      go_wp2_with fail
      refine (HO.out 2 wd).mono ?_
      rintro e w2 ⟨rfl, hb2⟩
      have hG2 := HGd.out.kept hb2
      have HB2 := Lib.hid (HA.out.trans (hb2.mono HA.out.size))
      obtain ⟨⟨b0, b1, b2, b3, b4⟩, -⟩ := hG2.facts5
      have hgl := hG2.lt
      clear hb2 hG2 HGd HA HO
      go_wp2
      go_ret
      exact ⟨rfl, HB2.out⟩
    · obtain ⟨w1, hw1⟩ : ∃ w1, w1 = w.alloc (.cells #[.int .i64 8, .string t, .int .i64 n, .int .u32 (a : Int), .int .i64 b] 28) := ⟨_, rfl⟩
      have hA : Below w.heap.size w w1 := by rw [hw1]; exact (Below.refl _ _).alloc (Nat.le_refl _) _
      have c := (hT.2.below hA).at 8 (by decide) 17 2 rfl rfl
      have HA := Lib.hid hA.drew
      have HG := Lib.hid (show Blk w1 w.heap.size 28 [.int .i64 8, .string t, .int .i64 n, .int .u32 (a : Int), .int .i64 b] by rw [hw1]; exact Blk.new w _ _)
      obtain ⟨⟨b0, b1, b2, b3, b4⟩, -⟩ := HG.out.facts5
      have q : ∀ ad : Addr, ({ heap := w1.heap, tape := w1.tape, drawn := w1.drawn + 1, os := w1.os, output := w1.output } : World).cell? ad = w1.cell? ad := fun _ => rfl
      clear hT hA
      go_enter Tryz.func27, Tryz.ntmps27
      go_wp2_with fail
      rw [← hw1]
      clear hw1
      go_still_tail 6, (by kernel_rfl)
      change wpList _ _ _ _ _ w1.drew
      clear q c b0 b1 b2 b3 b4
      obtain ⟨wd, hwd⟩ : ∃ wd, wd = w1.drew := ⟨_, rfl⟩
      have HGd := Lib.hid (show Blk wd w.heap.size 28 [.int .i64 8, .string t, .int .i64 n, .int .u32 (a : Int), .int .i64 b] by rw [hwd]; exact HG.out)
      rw [← hwd] at HA ⊢
      clear hwd HG
      go_wp2_with fail
      refine (HO.out 8 wd).mono ?_
      rintro e w2 ⟨rfl, hb2⟩
      have hG2 := HGd.out.kept hb2
      have HB2 := Lib.hid (HA.out.trans (hb2.mono HA.out.size))
      obtain ⟨⟨b0, b1, b2, b3, b4⟩, -⟩ := hG2.facts5
      have hgl := hG2.lt
      clear hb2 hG2 HGd HA HO
      go_wp2
      go_ret
      exact ⟨rfl, HB2.out⟩
  | false =>
    rw [if_neg (by decide)]
    rcases hk with rfl | rfl
    · obtain ⟨w1, hw1⟩ : ∃ w1, w1 = w.alloc (.cells #[.int .i64 2, .string t, .int .i64 n, .int .u32 (a : Int), .int .i64 b] 28) := ⟨_, rfl⟩
      have hA : Below w.heap.size w w1 := by rw [hw1]; exact (Below.refl _ _).alloc (Nat.le_refl _) _
      have c := (hT.2.below hA).at 2 (by decide) 5 2 rfl rfl
      have HA := Lib.hid hA.drew
      have HG := Lib.hid (show Blk w1 w.heap.size 28 [.int .i64 2, .string t, .int .i64 n, .int .u32 (a : Int), .int .i64 b] by rw [hw1]; exact Blk.new w _ _)
      obtain ⟨⟨b0, b1, b2, b3, b4⟩, -⟩ := HG.out.facts5
      have q : ∀ ad : Addr, ({ heap := w1.heap, tape := w1.tape, drawn := w1.drawn + 1, os := w1.os, output := w1.output } : World).cell? ad = w1.cell? ad := fun _ => rfl
      clear hT hA
      go_enter Tryz.func27, Tryz.ntmps27
      go_wp2_with fail
      rw [← hw1]
      clear hw1
      go_still_tail 6, (by kernel_rfl)
      change wpList _ _ _ _ _ w1.drew
      clear q c b0 b1 b2 b3 b4
      obtain ⟨wd, hwd⟩ : ∃ wd, wd = w1.drew := ⟨_, rfl⟩
      have HGd := Lib.hid (show Blk wd w.heap.size 28 [.int .i64 2, .string t, .int .i64 n, .int .u32 (a : Int), .int .i64 b] by rw [hwd]; exact HG.out)
      rw [← hwd] at HA ⊢
      clear hwd HG
      go_wp2_with fail
      refine (HO.out 2 wd).mono ?_
      rintro e w2 ⟨rfl, hb2⟩
      have hG2 := HGd.out.kept hb2
      have HB2 := Lib.hid (HA.out.trans (hb2.mono HA.out.size))
      obtain ⟨⟨b0, b1, b2, b3, b4⟩, -⟩ := hG2.facts5
      have hgl := hG2.lt
      clear hb2 hG2 HGd HA HO
      go_wp2_with fail
      refine (HF.out w2).mono ?_
      rintro e w3 ⟨rfl, hw3⟩
      subst hw3
      go_wp2
      go_ret
      exact ⟨rfl, HB2.out⟩
    · obtain ⟨w1, hw1⟩ : ∃ w1, w1 = w.alloc (.cells #[.int .i64 8, .string t, .int .i64 n, .int .u32 (a : Int), .int .i64 b] 28) := ⟨_, rfl⟩
      have hA : Below w.heap.size w w1 := by rw [hw1]; exact (Below.refl _ _).alloc (Nat.le_refl _) _
      have c := (hT.2.below hA).at 8 (by decide) 17 2 rfl rfl
      have HA := Lib.hid hA.drew
      have HG := Lib.hid (show Blk w1 w.heap.size 28 [.int .i64 8, .string t, .int .i64 n, .int .u32 (a : Int), .int .i64 b] by rw [hw1]; exact Blk.new w _ _)
      obtain ⟨⟨b0, b1, b2, b3, b4⟩, -⟩ := HG.out.facts5
      have q : ∀ ad : Addr, ({ heap := w1.heap, tape := w1.tape, drawn := w1.drawn + 1, os := w1.os, output := w1.output } : World).cell? ad = w1.cell? ad := fun _ => rfl
      clear hT hA
      go_enter Tryz.func27, Tryz.ntmps27
      go_wp2_with fail
      rw [← hw1]
      clear hw1
      go_still_tail 6, (by kernel_rfl)
      change wpList _ _ _ _ _ w1.drew
      clear q c b0 b1 b2 b3 b4
      obtain ⟨wd, hwd⟩ : ∃ wd, wd = w1.drew := ⟨_, rfl⟩
      have HGd := Lib.hid (show Blk wd w.heap.size 28 [.int .i64 8, .string t, .int .i64 n, .int .u32 (a : Int), .int .i64 b] by rw [hwd]; exact HG.out)
      rw [← hwd] at HA ⊢
      clear hwd HG
      go_wp2_with fail
      refine (HO.out 8 wd).mono ?_
      rintro e w2 ⟨rfl, hb2⟩
      have hG2 := HGd.out.kept hb2
      have HB2 := Lib.hid (HA.out.trans (hb2.mono HA.out.size))
      obtain ⟨⟨b0, b1, b2, b3, b4⟩, -⟩ := hG2.facts5
      have hgl := hG2.lt
      clear hb2 hG2 HGd HA HO
      go_wp2_with fail
      refine (HF.out w2).mono ?_
      rintro e w3 ⟨rfl, hw3⟩
      subst hw3
      go_wp2
      go_ret
      exact ⟨rfl, HB2.out⟩
set_option maxRecDepth 20000 in
set_option maxHeartbeats 8000000 in
/-- Kinds that have a key. -/
theorem check_key (k : Int) (hk : k = 1 ∨ k = 4) (t : ByteArray) (n : Int) (a : Nat) (b : Int) (w : World) (hs : t.size ≤ maxLen) (hT : BTabs w) :
    Calls Tryz.prog 27 #[setV ⟨k, t, n, a, b⟩] w fun e w' => e = .returned (.int .i64 ((if Bt.others t n a b 1 = true then 3 else Hx.checkErr t.data.toList : Nat) : Int)) ∧ Below w.heap.size w w' := by
  have HO := Lib.hid (fun k W => batch_hasOthers k t n a b 1 (by decide) W)
  have HF := Lib.hid (fun W => hex_Check t W hs)
  generalize Hx.checkErr t.data.toList = z at *
  clear hs
  have hlt := hT.2.1
  have HT := Lib.hid hT
  unfold setV at HO ⊢
  generalize Bt.others t n a b 1 = r at *
  cases r with
  | true =>
    rw [if_pos rfl]
    rcases hk with rfl | rfl
    · obtain ⟨w1, hw1⟩ : ∃ w1, w1 = w.alloc (.cells #[.int .i64 1, .string t, .int .i64 n, .int .u32 (a : Int), .int .i64 b] 28) := ⟨_, rfl⟩
      have hA : Below w.heap.size w w1 := by rw [hw1]; exact (Below.refl _ _).alloc (Nat.le_refl _) _
      have c := (hT.2.below hA).at 1 (by decide) 3 1 rfl rfl
      have HA := Lib.hid hA.drew
      have HG := Lib.hid (show Blk w1 w.heap.size 28 [.int .i64 1, .string t, .int .i64 n, .int .u32 (a : Int), .int .i64 b] by rw [hw1]; exact Blk.new w _ _)
      obtain ⟨⟨b0, b1, b2, b3, b4⟩, -⟩ := HG.out.facts5
      have q : ∀ ad : Addr, ({ heap := w1.heap, tape := w1.tape, drawn := w1.drawn + 1, os := w1.os, output := w1.output } : World).cell? ad = w1.cell? ad := fun _ => rfl
      clear hT hA
      go_enter Tryz.func27, Tryz.ntmps27
      go_wp2_with fail
      rw [← hw1]
      clear hw1
      go_still_tail 6, (by kernel_rfl)
      change wpList _ _ _ _ _ w1.drew
      clear q c b0 b1 b2 b3 b4
      obtain ⟨wd, hwd⟩ : ∃ wd, wd = w1.drew := ⟨_, rfl⟩
      have HGd := Lib.hid (show Blk wd w.heap.size 28 [.int .i64 1, .string t, .int .i64 n, .int .u32 (a : Int), .int .i64 b] by rw [hwd]; exact HG.out)
      rw [← hwd] at HA ⊢
      clear hwd HG
      go_wp2_with fail
      refine (HO.out 1 wd).mono ?_
      rintro e w2 ⟨rfl, hb2⟩
      have hG2 := HGd.out.kept hb2
      have HB2 := Lib.hid (HA.out.trans (hb2.mono HA.out.size))
      obtain ⟨⟨b0, b1, b2, b3, b4⟩, -⟩ := hG2.facts5
      have hgl := hG2.lt
      clear hb2 hG2 HGd HA HO
      go_wp2
      go_ret
      exact ⟨rfl, HB2.out⟩
    · obtain ⟨w1, hw1⟩ : ∃ w1, w1 = w.alloc (.cells #[.int .i64 4, .string t, .int .i64 n, .int .u32 (a : Int), .int .i64 b] 28) := ⟨_, rfl⟩
      have hA : Below w.heap.size w w1 := by rw [hw1]; exact (Below.refl _ _).alloc (Nat.le_refl _) _
      have c := (hT.2.below hA).at 4 (by decide) 9 1 rfl rfl
      have HA := Lib.hid hA.drew
      have HG := Lib.hid (show Blk w1 w.heap.size 28 [.int .i64 4, .string t, .int .i64 n, .int .u32 (a : Int), .int .i64 b] by rw [hw1]; exact Blk.new w _ _)
      obtain ⟨⟨b0, b1, b2, b3, b4⟩, -⟩ := HG.out.facts5
      have q : ∀ ad : Addr, ({ heap := w1.heap, tape := w1.tape, drawn := w1.drawn + 1, os := w1.os, output := w1.output } : World).cell? ad = w1.cell? ad := fun _ => rfl
      clear hT hA
      go_enter Tryz.func27, Tryz.ntmps27
      go_wp2_with fail
      rw [← hw1]
      clear hw1
      go_still_tail 6, (by kernel_rfl)
      change wpList _ _ _ _ _ w1.drew
      clear q c b0 b1 b2 b3 b4
      obtain ⟨wd, hwd⟩ : ∃ wd, wd = w1.drew := ⟨_, rfl⟩
      have HGd := Lib.hid (show Blk wd w.heap.size 28 [.int .i64 4, .string t, .int .i64 n, .int .u32 (a : Int), .int .i64 b] by rw [hwd]; exact HG.out)
      rw [← hwd] at HA ⊢
      clear hwd HG
      go_wp2_with fail
      refine (HO.out 4 wd).mono ?_
      rintro e w2 ⟨rfl, hb2⟩
      have hG2 := HGd.out.kept hb2
      have HB2 := Lib.hid (HA.out.trans (hb2.mono HA.out.size))
      obtain ⟨⟨b0, b1, b2, b3, b4⟩, -⟩ := hG2.facts5
      have hgl := hG2.lt
      clear hb2 hG2 HGd HA HO
      go_wp2
      go_ret
      exact ⟨rfl, HB2.out⟩
  | false =>
    rw [if_neg (by decide)]
    rcases hk with rfl | rfl
    · obtain ⟨w1, hw1⟩ : ∃ w1, w1 = w.alloc (.cells #[.int .i64 1, .string t, .int .i64 n, .int .u32 (a : Int), .int .i64 b] 28) := ⟨_, rfl⟩
      have hA : Below w.heap.size w w1 := by rw [hw1]; exact (Below.refl _ _).alloc (Nat.le_refl _) _
      have c := (hT.2.below hA).at 1 (by decide) 3 1 rfl rfl
      have HA := Lib.hid hA.drew
      have HG := Lib.hid (show Blk w1 w.heap.size 28 [.int .i64 1, .string t, .int .i64 n, .int .u32 (a : Int), .int .i64 b] by rw [hw1]; exact Blk.new w _ _)
      obtain ⟨⟨b0, b1, b2, b3, b4⟩, -⟩ := HG.out.facts5
      have q : ∀ ad : Addr, ({ heap := w1.heap, tape := w1.tape, drawn := w1.drawn + 1, os := w1.os, output := w1.output } : World).cell? ad = w1.cell? ad := fun _ => rfl
      clear hT hA
      go_enter Tryz.func27, Tryz.ntmps27
      go_wp2_with fail
      rw [← hw1]
      clear hw1
      go_still_tail 6, (by kernel_rfl)
      change wpList _ _ _ _ _ w1.drew
      clear q c b0 b1 b2 b3 b4
      obtain ⟨wd, hwd⟩ : ∃ wd, wd = w1.drew := ⟨_, rfl⟩
      have HGd := Lib.hid (show Blk wd w.heap.size 28 [.int .i64 1, .string t, .int .i64 n, .int .u32 (a : Int), .int .i64 b] by rw [hwd]; exact HG.out)
      rw [← hwd] at HA ⊢
      clear hwd HG
      go_wp2_with fail
      refine (HO.out 1 wd).mono ?_
      rintro e w2 ⟨rfl, hb2⟩
      have hG2 := HGd.out.kept hb2
      have HB2 := Lib.hid (HA.out.trans (hb2.mono HA.out.size))
      obtain ⟨⟨b0, b1, b2, b3, b4⟩, -⟩ := hG2.facts5
      have hgl := hG2.lt
      clear hb2 hG2 HGd HA HO
      go_wp2_with fail
      refine (HF.out w2).mono ?_
      rintro e w3 ⟨rfl, hw3⟩
      subst hw3
      go_wp2
      go_ret
      exact ⟨rfl, HB2.out⟩
    · obtain ⟨w1, hw1⟩ : ∃ w1, w1 = w.alloc (.cells #[.int .i64 4, .string t, .int .i64 n, .int .u32 (a : Int), .int .i64 b] 28) := ⟨_, rfl⟩
      have hA : Below w.heap.size w w1 := by rw [hw1]; exact (Below.refl _ _).alloc (Nat.le_refl _) _
      have c := (hT.2.below hA).at 4 (by decide) 9 1 rfl rfl
      have HA := Lib.hid hA.drew
      have HG := Lib.hid (show Blk w1 w.heap.size 28 [.int .i64 4, .string t, .int .i64 n, .int .u32 (a : Int), .int .i64 b] by rw [hw1]; exact Blk.new w _ _)
      obtain ⟨⟨b0, b1, b2, b3, b4⟩, -⟩ := HG.out.facts5
      have q : ∀ ad : Addr, ({ heap := w1.heap, tape := w1.tape, drawn := w1.drawn + 1, os := w1.os, output := w1.output } : World).cell? ad = w1.cell? ad := fun _ => rfl
      clear hT hA
      go_enter Tryz.func27, Tryz.ntmps27
      go_wp2_with fail
      rw [← hw1]
      clear hw1
      go_still_tail 6, (by kernel_rfl)
      change wpList _ _ _ _ _ w1.drew
      clear q c b0 b1 b2 b3 b4
      obtain ⟨wd, hwd⟩ : ∃ wd, wd = w1.drew := ⟨_, rfl⟩
      have HGd := Lib.hid (show Blk wd w.heap.size 28 [.int .i64 4, .string t, .int .i64 n, .int .u32 (a : Int), .int .i64 b] by rw [hwd]; exact HG.out)
      rw [← hwd] at HA ⊢
      clear hwd HG
      go_wp2_with fail
      refine (HO.out 4 wd).mono ?_
      rintro e w2 ⟨rfl, hb2⟩
      have hG2 := HGd.out.kept hb2
      have HB2 := Lib.hid (HA.out.trans (hb2.mono HA.out.size))
      obtain ⟨⟨b0, b1, b2, b3, b4⟩, -⟩ := hG2.facts5
      have hgl := hG2.lt
      clear hb2 hG2 HGd HA HO
      go_wp2_with fail
      refine (HF.out w2).mono ?_
      rintro e w3 ⟨rfl, hw3⟩
      subst hw3
      go_wp2
      go_ret
      exact ⟨rfl, HB2.out⟩
set_option maxRecDepth 20000 in
set_option maxHeartbeats 8000000 in
/-- The kind that has a key or none. -/
theorem check_shared (t : ByteArray) (n : Int) (a : Nat) (b : Int) (w : World) (hs : t.size ≤ maxLen) (hT : BTabs w) :
    Calls Tryz.prog 27 #[setV ⟨6, t, n, a, b⟩] w fun e w' => e = .returned (.int .i64 ((if Bt.others t n a b 1 = true then 3 else if t.size = 0 then 0 else if t = Bt.zeros then 3 else Hx.checkErr t.data.toList : Nat) : Int)) ∧ Below w.heap.size w w' := by
  have HO := Lib.hid (fun k W => batch_hasOthers k t n a b 1 (by decide) W)
  have HF := Lib.hid (fun W => batch_checkShared t W hs)
  generalize (if t.size = 0 then 0 else if t = Bt.zeros then 3 else Hx.checkErr t.data.toList : Nat) = z at *
  clear hs
  have hlt := hT.2.1
  have HT := Lib.hid hT
  unfold setV at HO ⊢
  generalize Bt.others t n a b 1 = r at *
  cases r with
  | true =>
    rw [if_pos rfl]
    obtain ⟨w1, hw1⟩ : ∃ w1, w1 = w.alloc (.cells #[.int .i64 6, .string t, .int .i64 n, .int .u32 (a : Int), .int .i64 b] 28) := ⟨_, rfl⟩
    have hA : Below w.heap.size w w1 := by rw [hw1]; exact (Below.refl _ _).alloc (Nat.le_refl _) _
    have c := (hT.2.below hA).at 6 (by decide) 13 1 rfl rfl
    have HA := Lib.hid hA.drew
    have HG := Lib.hid (show Blk w1 w.heap.size 28 [.int .i64 6, .string t, .int .i64 n, .int .u32 (a : Int), .int .i64 b] by rw [hw1]; exact Blk.new w _ _)
    obtain ⟨⟨b0, b1, b2, b3, b4⟩, -⟩ := HG.out.facts5
    have q : ∀ ad : Addr, ({ heap := w1.heap, tape := w1.tape, drawn := w1.drawn + 1, os := w1.os, output := w1.output } : World).cell? ad = w1.cell? ad := fun _ => rfl
    clear hT hA
    go_enter Tryz.func27, Tryz.ntmps27
    go_wp2_with fail
    rw [← hw1]
    clear hw1
    go_still_tail 6, (by kernel_rfl)
    change wpList _ _ _ _ _ w1.drew
    clear q c b0 b1 b2 b3 b4
    obtain ⟨wd, hwd⟩ : ∃ wd, wd = w1.drew := ⟨_, rfl⟩
    have HGd := Lib.hid (show Blk wd w.heap.size 28 [.int .i64 6, .string t, .int .i64 n, .int .u32 (a : Int), .int .i64 b] by rw [hwd]; exact HG.out)
    rw [← hwd] at HA ⊢
    clear hwd HG
    go_wp2_with fail
    refine (HO.out 6 wd).mono ?_
    rintro e w2 ⟨rfl, hb2⟩
    have hG2 := HGd.out.kept hb2
    have HB2 := Lib.hid (HA.out.trans (hb2.mono HA.out.size))
    obtain ⟨⟨b0, b1, b2, b3, b4⟩, -⟩ := hG2.facts5
    have hgl := hG2.lt
    clear hb2 hG2 HGd HA HO
    go_wp2
    go_ret
    exact ⟨rfl, HB2.out⟩
  | false =>
    rw [if_neg (by decide)]
    obtain ⟨w1, hw1⟩ : ∃ w1, w1 = w.alloc (.cells #[.int .i64 6, .string t, .int .i64 n, .int .u32 (a : Int), .int .i64 b] 28) := ⟨_, rfl⟩
    have hA : Below w.heap.size w w1 := by rw [hw1]; exact (Below.refl _ _).alloc (Nat.le_refl _) _
    have c := (hT.2.below hA).at 6 (by decide) 13 1 rfl rfl
    have HA := Lib.hid hA.drew
    have HG := Lib.hid (show Blk w1 w.heap.size 28 [.int .i64 6, .string t, .int .i64 n, .int .u32 (a : Int), .int .i64 b] by rw [hw1]; exact Blk.new w _ _)
    obtain ⟨⟨b0, b1, b2, b3, b4⟩, -⟩ := HG.out.facts5
    have q : ∀ ad : Addr, ({ heap := w1.heap, tape := w1.tape, drawn := w1.drawn + 1, os := w1.os, output := w1.output } : World).cell? ad = w1.cell? ad := fun _ => rfl
    clear hT hA
    go_enter Tryz.func27, Tryz.ntmps27
    go_wp2_with fail
    rw [← hw1]
    clear hw1
    go_still_tail 6, (by kernel_rfl)
    change wpList _ _ _ _ _ w1.drew
    clear q c b0 b1 b2 b3 b4
    obtain ⟨wd, hwd⟩ : ∃ wd, wd = w1.drew := ⟨_, rfl⟩
    have HGd := Lib.hid (show Blk wd w.heap.size 28 [.int .i64 6, .string t, .int .i64 n, .int .u32 (a : Int), .int .i64 b] by rw [hwd]; exact HG.out)
    rw [← hwd] at HA ⊢
    clear hwd HG
    go_wp2_with fail
    refine (HO.out 6 wd).mono ?_
    rintro e w2 ⟨rfl, hb2⟩
    have hG2 := HGd.out.kept hb2
    have HB2 := Lib.hid (HA.out.trans (hb2.mono HA.out.size))
    obtain ⟨⟨b0, b1, b2, b3, b4⟩, -⟩ := hG2.facts5
    have hgl := hG2.lt
    clear hb2 hG2 HGd HA HO
    go_wp2_with fail
    refine (HF.out w2).mono ?_
    rintro e w3 ⟨rfl, hw3⟩
    subst hw3
    go_wp2
    go_ret
    exact ⟨rfl, HB2.out⟩
set_option maxRecDepth 20000 in
set_option maxHeartbeats 8000000 in
/-- The kind that has an endpoint. -/
theorem check_end (t : ByteArray) (n : Int) (a : Nat) (b : Int) (w : World) (hs : t.size ≤ 1048576) (hT : BTabs w) :
    Calls Tryz.prog 27 #[setV ⟨7, t, n, a, b⟩] w fun e w' => e = .returned (.int .i64 ((if Bt.others t n a b 1 = true then 3 else Ad.endErr t.data.toList : Nat) : Int)) ∧ Below w.heap.size w w' := by
  have HO := Lib.hid (fun k W => batch_hasOthers k t n a b 1 (by decide) W)
  have HF := Lib.hid (fun W hW => addr_End t W hs (hT.1.below hW))
  generalize Ad.endErr t.data.toList = z at *
  generalize Ad.endAddr t.data.toList = z1 at *
  generalize Ad.endPort t.data.toList = z2 at *
  clear hs
  have hlt := hT.2.1
  have HT := Lib.hid hT
  unfold setV at HO ⊢
  generalize Bt.others t n a b 1 = r at *
  cases r with
  | true =>
    rw [if_pos rfl]
    obtain ⟨w1, hw1⟩ : ∃ w1, w1 = w.alloc (.cells #[.int .i64 7, .string t, .int .i64 n, .int .u32 (a : Int), .int .i64 b] 28) := ⟨_, rfl⟩
    have hA : Below w.heap.size w w1 := by rw [hw1]; exact (Below.refl _ _).alloc (Nat.le_refl _) _
    have c := (hT.2.below hA).at 7 (by decide) 15 1 rfl rfl
    have HA := Lib.hid hA.drew
    have HG := Lib.hid (show Blk w1 w.heap.size 28 [.int .i64 7, .string t, .int .i64 n, .int .u32 (a : Int), .int .i64 b] by rw [hw1]; exact Blk.new w _ _)
    obtain ⟨⟨b0, b1, b2, b3, b4⟩, -⟩ := HG.out.facts5
    have q : ∀ ad : Addr, ({ heap := w1.heap, tape := w1.tape, drawn := w1.drawn + 1, os := w1.os, output := w1.output } : World).cell? ad = w1.cell? ad := fun _ => rfl
    clear hT hA
    go_enter Tryz.func27, Tryz.ntmps27
    go_wp2_with fail
    rw [← hw1]
    clear hw1
    go_still_tail 6, (by kernel_rfl)
    change wpList _ _ _ _ _ w1.drew
    clear q c b0 b1 b2 b3 b4
    obtain ⟨wd, hwd⟩ : ∃ wd, wd = w1.drew := ⟨_, rfl⟩
    have HGd := Lib.hid (show Blk wd w.heap.size 28 [.int .i64 7, .string t, .int .i64 n, .int .u32 (a : Int), .int .i64 b] by rw [hwd]; exact HG.out)
    rw [← hwd] at HA ⊢
    clear hwd HG
    go_wp2_with fail
    refine (HO.out 7 wd).mono ?_
    rintro e w2 ⟨rfl, hb2⟩
    have hG2 := HGd.out.kept hb2
    have HB2 := Lib.hid (HA.out.trans (hb2.mono HA.out.size))
    obtain ⟨⟨b0, b1, b2, b3, b4⟩, -⟩ := hG2.facts5
    have hgl := hG2.lt
    clear hb2 hG2 HGd HA HO
    go_wp2
    go_ret
    exact ⟨rfl, HB2.out⟩
  | false =>
    rw [if_neg (by decide)]
    obtain ⟨w1, hw1⟩ : ∃ w1, w1 = w.alloc (.cells #[.int .i64 7, .string t, .int .i64 n, .int .u32 (a : Int), .int .i64 b] 28) := ⟨_, rfl⟩
    have hA : Below w.heap.size w w1 := by rw [hw1]; exact (Below.refl _ _).alloc (Nat.le_refl _) _
    have c := (hT.2.below hA).at 7 (by decide) 15 1 rfl rfl
    have HA := Lib.hid hA.drew
    have HG := Lib.hid (show Blk w1 w.heap.size 28 [.int .i64 7, .string t, .int .i64 n, .int .u32 (a : Int), .int .i64 b] by rw [hw1]; exact Blk.new w _ _)
    obtain ⟨⟨b0, b1, b2, b3, b4⟩, -⟩ := HG.out.facts5
    have q : ∀ ad : Addr, ({ heap := w1.heap, tape := w1.tape, drawn := w1.drawn + 1, os := w1.os, output := w1.output } : World).cell? ad = w1.cell? ad := fun _ => rfl
    clear hT hA
    go_enter Tryz.func27, Tryz.ntmps27
    go_wp2_with fail
    rw [← hw1]
    clear hw1
    go_still_tail 6, (by kernel_rfl)
    change wpList _ _ _ _ _ w1.drew
    clear q c b0 b1 b2 b3 b4
    obtain ⟨wd, hwd⟩ : ∃ wd, wd = w1.drew := ⟨_, rfl⟩
    have HGd := Lib.hid (show Blk wd w.heap.size 28 [.int .i64 7, .string t, .int .i64 n, .int .u32 (a : Int), .int .i64 b] by rw [hwd]; exact HG.out)
    rw [← hwd] at HA ⊢
    clear hwd HG
    go_wp2_with fail
    refine (HO.out 7 wd).mono ?_
    rintro e w2 ⟨rfl, hb2⟩
    have hG2 := HGd.out.kept hb2
    have HB2 := Lib.hid (HA.out.trans (hb2.mono HA.out.size))
    obtain ⟨⟨b0, b1, b2, b3, b4⟩, -⟩ := hG2.facts5
    have hgl := hG2.lt
    clear hb2 hG2 HGd HA HO
    go_wp2_with fail
    refine (HF.out w2 HB2.out).mono ?_
    rintro e w3 ⟨rfl, hb3⟩
    have hb := HB2.out.trans (hb3.mono HB2.out.size)
    clear hb3
    go_wp2
    go_ret
    exact ⟨rfl, hb⟩
set_option maxRecDepth 20000 in
set_option maxHeartbeats 8000000 in
/-- The kind that has a network. -/
theorem check_net (t : ByteArray) (n : Int) (a : Nat) (b : Int) (w : World) (ha : a < 4294967296) (hT : BTabs w) :
    Calls Tryz.prog 27 #[setV ⟨10, t, n, a, b⟩] w fun e w' => e = .returned (.int .i64 ((if Bt.others t n a b 3 = true then 3 else Nt.err a b : Nat) : Int)) ∧ Below w.heap.size w w' := by
  have HO := Lib.hid (fun k W => batch_hasOthers k t n a b 3 (by decide) W)
  have HF := Lib.hid (fun W => net_Check0 a b W ha)
  unfold netV at HF
  generalize Nt.err a b = z at *
  clear ha
  have hlt := hT.2.1
  have HT := Lib.hid hT
  unfold setV at HO ⊢
  generalize Bt.others t n a b 3 = r at *
  cases r with
  | true =>
    rw [if_pos rfl]
    obtain ⟨w1, hw1⟩ : ∃ w1, w1 = w.alloc (.cells #[.int .i64 10, .string t, .int .i64 n, .int .u32 (a : Int), .int .i64 b] 28) := ⟨_, rfl⟩
    have hA : Below w.heap.size w w1 := by rw [hw1]; exact (Below.refl _ _).alloc (Nat.le_refl _) _
    have c := (hT.2.below hA).at 10 (by decide) 21 3 rfl rfl
    have HA := Lib.hid hA.drew
    have HG := Lib.hid (show Blk w1 w.heap.size 28 [.int .i64 10, .string t, .int .i64 n, .int .u32 (a : Int), .int .i64 b] by rw [hw1]; exact Blk.new w _ _)
    obtain ⟨⟨b0, b1, b2, b3, b4⟩, -⟩ := HG.out.facts5
    have q : ∀ ad : Addr, ({ heap := w1.heap, tape := w1.tape, drawn := w1.drawn + 1, os := w1.os, output := w1.output } : World).cell? ad = w1.cell? ad := fun _ => rfl
    clear hT hA
    go_enter Tryz.func27, Tryz.ntmps27
    go_wp2_with fail
    rw [← hw1]
    clear hw1
    go_still_tail 6, (by kernel_rfl)
    change wpList _ _ _ _ _ w1.drew
    clear q c b0 b1 b2 b3 b4
    obtain ⟨wd, hwd⟩ : ∃ wd, wd = w1.drew := ⟨_, rfl⟩
    have HGd := Lib.hid (show Blk wd w.heap.size 28 [.int .i64 10, .string t, .int .i64 n, .int .u32 (a : Int), .int .i64 b] by rw [hwd]; exact HG.out)
    rw [← hwd] at HA ⊢
    clear hwd HG
    go_wp2_with fail
    refine (HO.out 10 wd).mono ?_
    rintro e w2 ⟨rfl, hb2⟩
    have hG2 := HGd.out.kept hb2
    have HB2 := Lib.hid (HA.out.trans (hb2.mono HA.out.size))
    obtain ⟨⟨b0, b1, b2, b3, b4⟩, -⟩ := hG2.facts5
    have hgl := hG2.lt
    clear hb2 hG2 HGd HA HO
    go_wp2
    go_ret
    exact ⟨rfl, HB2.out⟩
  | false =>
    rw [if_neg (by decide)]
    obtain ⟨w1, hw1⟩ : ∃ w1, w1 = w.alloc (.cells #[.int .i64 10, .string t, .int .i64 n, .int .u32 (a : Int), .int .i64 b] 28) := ⟨_, rfl⟩
    have hA : Below w.heap.size w w1 := by rw [hw1]; exact (Below.refl _ _).alloc (Nat.le_refl _) _
    have c := (hT.2.below hA).at 10 (by decide) 21 3 rfl rfl
    have HA := Lib.hid hA.drew
    have HG := Lib.hid (show Blk w1 w.heap.size 28 [.int .i64 10, .string t, .int .i64 n, .int .u32 (a : Int), .int .i64 b] by rw [hw1]; exact Blk.new w _ _)
    obtain ⟨⟨b0, b1, b2, b3, b4⟩, -⟩ := HG.out.facts5
    have q : ∀ ad : Addr, ({ heap := w1.heap, tape := w1.tape, drawn := w1.drawn + 1, os := w1.os, output := w1.output } : World).cell? ad = w1.cell? ad := fun _ => rfl
    clear hT hA
    go_enter Tryz.func27, Tryz.ntmps27
    go_wp2_with fail
    rw [← hw1]
    clear hw1
    go_still_tail 6, (by kernel_rfl)
    change wpList _ _ _ _ _ w1.drew
    clear q c b0 b1 b2 b3 b4
    obtain ⟨wd, hwd⟩ : ∃ wd, wd = w1.drew := ⟨_, rfl⟩
    have HGd := Lib.hid (show Blk wd w.heap.size 28 [.int .i64 10, .string t, .int .i64 n, .int .u32 (a : Int), .int .i64 b] by rw [hwd]; exact HG.out)
    rw [← hwd] at HA ⊢
    clear hwd HG
    go_wp2_with fail
    refine (HO.out 10 wd).mono ?_
    rintro e w2 ⟨rfl, hb2⟩
    have hG2 := HGd.out.kept hb2
    have HB2 := Lib.hid (HA.out.trans (hb2.mono HA.out.size))
    obtain ⟨⟨b0, b1, b2, b3, b4⟩, -⟩ := hG2.facts5
    have hgl := hG2.lt
    clear hb2 hG2 HGd HA HO
    go_wp2_with fail
    refine (HF.out w2).mono ?_
    rintro e w3 ⟨rfl, hb3⟩
    have hb := HB2.out.trans (hb3.mono HB2.out.size)
    clear hb3
    go_wp2
    go_ret
    exact ⟨rfl, hb⟩
/-- What is wrong with a setting. -/
theorem batch_Check (s : Bt.S) (w : World) (hs : s.t.size ≤ 1048576) (ha : s.a < 4294967296) (hT : BTabs w) :
    Calls Tryz.prog 27 #[setV s] w fun e w' => e = .returned (.int .i64 (Bt.err s : Int)) ∧ Below w.heap.size w w' := by
  by_cases hk : s.k < 1 ∨ 10 < s.k
  · have Hr := Lib.hid (show Bt.err s = 2 by unfold Bt.err; rw [if_pos hk])
    obtain ⟨k, t, n, a, b⟩ := s
    have HB : Hid (∀ o, Below w.heap.size w (w.alloc o)) := Lib.hid fun o => (Below.refl _ _).alloc (Nat.le_refl _) _
    unfold setV
    simp only at hk ⊢
    rcases hk with h | h
    · have d1 : decide (k < 1) = true := decide_eq_true h
      go_enter Tryz.func27, Tryz.ntmps27
      go_wp2
      go_ret
      exact ⟨by rw [Hr.out]; rfl, HB.out _⟩
    · have d1 : decide (k < 1) = false := decide_eq_false (by omega)
      have d2 : decide (11 ≤ k) = true := decide_eq_true (by omega)
      go_enter Tryz.func27, Tryz.ntmps27
      go_wp2
      go_ret
      exact ⟨by rw [Hr.out]; rfl, HB.out _⟩
  have h1 : 1 ≤ s.k := by omega
  have h2 : s.k ≤ 10 := by omega
  have hml : s.t.size ≤ maxLen := by unfold maxLen; omega
  have he : Bt.err s = (if Bt.others s.t s.n s.a s.b (Bt.fld s.k) = true then 3 else if Bt.fld s.k = 2 then (if s.n < 0 ∨ 65535 < s.n then 4 else 0) else if Bt.fld s.k = 3 then Nt.err s.a s.b else
    if s.k = 7 then Ad.endErr s.t.data.toList else if s.k = 6 ∧ s.t.size = 0 then 0 else if s.k = 6 ∧ s.t = Bt.zeros then 3 else if Bt.fld s.k = 1 then Hx.checkErr s.t.data.toList else 0) := by
    unfold Bt.err
    rw [if_neg (by omega), Bt.more_others]
  rw [he]
  clear he
  obtain ⟨k, t, n, a, b⟩ := s
  simp only at h1 h2 hs ha hml ⊢
  rcases Bt.fld_cases k h1 h2 with rfl | rfl | rfl | rfl | rfl | rfl | rfl | rfl | rfl | rfl
  · exact check_key 1 (by omega) t n a b w hml hT
  · exact check_num 2 (by omega) t n a b w hT
  · exact check_none 3 (by omega) t n a b w hT
  · exact check_key 4 (by omega) t n a b w hml hT
  · exact check_none 5 (by omega) t n a b w hT
  · have := check_shared t n a b w hml hT
    rw [show Bt.fld 6 = 1 from rfl]
    simpa using this
  · exact check_end t n a b w hs hT
  · exact check_num 8 (by omega) t n a b w hT
  · exact check_none 9 (by omega) t n a b w hT
  · exact check_net t n a b w ha hT
end Go.Proofs.YthlagpmacnijfaaGreatDoor

namespace Go.Proofs.YthlagpmacnijfaaGreatDoor
open Go.RowKit

theorem set_beside (w : World) (xs ys : List Value) (t u : TypeId) : Below w.heap.size w ((w.alloc (.cells xs.toArray t)).alloc (.cells ys.toArray u)) ∧ Blk ((w.alloc (.cells xs.toArray t)).alloc (.cells ys.toArray u)) w.heap.size t xs ∧ Blk ((w.alloc (.cells xs.toArray t)).alloc (.cells ys.toArray u)) (w.heap.size + 1) u ys := by
  refine ⟨((Below.refl _ _).alloc (Nat.le_refl _) _).alloc (by simp) _, (Blk.new w t xs).kept ((Below.refl _ _).alloc (Nat.le_refl _) _), ?_⟩
  have := Blk.new (w.alloc (.cells xs.toArray t)) u ys
  rwa [show (w.alloc (.cells xs.toArray t)).heap.size = w.heap.size + 1 by simp] at this
theorem err_net_bits {s : Bt.S} (h : Bt.err s = 0) : -9223372036854775808 ≤ s.b ∧ s.b ≤ 9223372036854775807 := by
  obtain ⟨h1, h2⟩ := Bt.err_in h
  obtain ⟨-, -, h3⟩ := Bt.more_of h2
  rcases h3 with ⟨-, h3⟩ | h3
  · omega
  · have := (Bt.err_rest h).2.1 h3
    unfold Nt.err at this
    split at this <;> first | omega | cases this
def lineVal (G k : Nat) (st : ByteArray) (sn : Int) (sa : Nat) (sb : Int) (X V : ByteArray) (j : Nat) : Value :=
  match j with
  | 0 => .pointer (some ⟨G, 0, none⟩)
  | 1 => .int .i64 (k : Int)
  | 2 => .pointer (some ⟨0, k * 2, none⟩)
  | 3 => .pointer (some ⟨0, k * 2, none⟩)
  | 4 => .string X
  | 5 => .agg #[.int .i64 (k : Int), .string st, .int .i64 sn, .int .u32 (sa : Int), .int .i64 sb]
  | 6 => .string V
  | 7 => .agg #[.string X, .string V]
  | _ => .int .i64 0
def lineDst (i : Nat) : Option Nat := ([some 11, some 12, some 13, some 14, some 15, some 16, some 17, some 18, none, some 3] : List (Option Nat)).getD i none
theorem line_dist (i j : Nat) (h : i < j) (hj : j < 10) : lineDst i = none ∨ lineDst i ≠ lineDst j := (by decide : ∀ j, j < 10 → ∀ i, i < j → (lineDst i = none ∨ lineDst i ≠ lineDst j)) j hj i h
theorem line_in (i d : Nat) (hi : i < 10) (hd : lineDst i = some d) : (d = 3 ∨ 11 ≤ d) ∧ d ≤ 18 := by
  have h := (by decide : ∀ i, i < 10 → ((lineDst i).getD 3 = 3 ∨ 11 ≤ (lineDst i).getD 3) ∧ (lineDst i).getD 0 ≤ 18) i hi
  rw [hd] at h
  exact h
theorem line_put (F : Nat → Value) (a0 : Act) : putAll lineDst F a0 10 = (((((((((a0.put (some 11) (F 0)).put (some 12) (F 1)).put (some 13) (F 2)).put (some 14) (F 3)).put (some 15) (F 4)).put (some 16) (F 5)).put (some 17) (F 6)).put (some 18) (F 7)).put (some 3) (F 9)) := by
  rw [putAll_some 10 9 3 _ rfl rfl rfl, putAll_none 9 8 rfl rfl, putAll_some 8 7 18 _ rfl rfl rfl, putAll_some 7 6 17 _ rfl rfl rfl, putAll_some 6 5 16 _ rfl rfl rfl, putAll_some 5 4 15 _ rfl rfl rfl, putAll_some 4 3 14 _ rfl rfl rfl, putAll_some 3 2 13 _ rfl rfl rfl, putAll_some 2 1 12 _ rfl rfl rfl, putAll_some 1 0 11 _ rfl rfl rfl]
  rfl
set_option maxRecDepth 20000 in
set_option maxHeartbeats 8000000 in
theorem batch_Line (s : Bt.S) (w : World) (hs : s.t.size ≤ 1048576) (ha : s.a < 4294967296) (hn0 : -9223372036854775808 ≤ s.n) (hn1 : s.n ≤ 9223372036854775807) (hT : BTabs w) :
    Calls Tryz.prog 15 #[setV s] w fun e w' => e = .returned (.tuple #[lineV (Bt.line s), .int .i64 (Bt.err s : Int)]) ∧ Below w.heap.size w w' := by
  have hS := set_beside w (Bt.setC s) (Ln.lineC Bt.noLine) 28 23
  obtain ⟨w1, hw1⟩ : ∃ w1, w1 = (w.alloc (.cells (Bt.setC s).toArray 28)).alloc (.cells (Ln.lineC Bt.noLine).toArray 23) := ⟨_, rfl⟩
  rw [← hw1] at hS
  obtain ⟨hA, hG, hR⟩ := hS
  have HA := Lib.hid hA
  have HG := Lib.hid hG
  have HR := Lib.hid hR
  have HC := Lib.hid (fun W hW => batch_Check s W hs ha (hT.below hW))
  have HT := Lib.hid hT
  have hgl := hG.lt
  have hrl := hR.lt
  clear hT
  by_cases he : Bt.err s = 0
  · obtain ⟨hb0, hb1⟩ := err_net_bits he
    obtain ⟨⟨h1, h2⟩, -⟩ := Bt.err_in he
    have HW := Lib.hid (fun W hW => batch_write s W h1 h2 ha hn0 hn1 hb0 hb1 (HT.out.below hW))
    have hl : Bt.line s = ⟨Bt.nameOf s.k.toNat, Bt.val s⟩ := by unfold Bt.line; rw [if_pos he]; rfl
    obtain ⟨k, hk⟩ : ∃ k : Nat, s.k = (k : Int) := ⟨s.k.toNat, by omega⟩
    have hk11 : k < 11 := by omega
    rw [hl]
    rw [he] at HC ⊢
    rw [hk, Int.toNat_natCast]
    clear hl he hs ha hn0 hn1 hb0 hb1 h1 h2
    obtain ⟨sk, st, sn, sa, sb⟩ := s
    simp only at hk
    subst hk
    have hw1' : w1 = (w.alloc (.cells #[.int .i64 k, .string st, .int .i64 sn, .int .u32 (sa : Int), .int .i64 sb] 28)).alloc (.cells #[.string ⟨#[]⟩, .string ⟨#[]⟩] 23) := hw1
    have HN : Hid (∀ W, Below w.heap.size w W → W.cell? ⟨0, k * 2, none⟩ = some (.string (Bt.nameOf k))) := Lib.hid fun W hW => ((HT.out.2.below hW).2 k hk11).1
    generalize Bt.val ⟨(k : Int), st, sn, sa, sb⟩ = V at *
    generalize Bt.nameOf k = X at *
    obtain ⟨⟨g0, g1, g2, g3, g4⟩, -⟩ := hG.facts5
    have i0 : (0 : Int) ≤ (k : Int) := by omega
    have i1 : (k : Int) < 11 := by omega
    unfold setV at HC HW ⊢
    unfold lineV
    clear hA hG hR hw1
    go_enter Tryz.func15, Tryz.ntmps15
    go_upto_region 1 with fail
    rw [← hw1']
    clear hw1'
    go_wp2_with fail
    refine (HC.out w1 HA.out).mono ?_
    rintro e w2 ⟨rfl, hb2⟩
    have hG2 := HG.out.kept hb2
    have hR2 := HR.out.kept hb2
    have HG2 := Lib.hid hG2
    have HR2 := Lib.hid hR2
    have HA2 := Lib.hid (HA.out.trans (hb2.mono HA.out.size))
    have hlt0 := HT.out.2.1
    have HB2 := HA2
    clear g0 g1 g2 g3 g4 hG2 hR2 hb2 HC
    go_upto_region 4 with fail
    have hmix : Tryz.prog.follows .mixedOrders = true := by kernel_rfl
    refine wp_region_vals 10 8 lineDst (fun b' j v W => (b' = true ∧ j < 8) ∨ j = 8 ∨ v = lineVal w.heap.size k st sn sa sb X V j) (fun b' W => Below w.heap.size w W ∧ (b' = false → Below w2.heap.size w2 W) ∧ (b' = true → Blk W (w.heap.size + 1) 23 [.string X, .string V])) hmix rfl line_dist ?low ?inn ?stab ?drop ?late ?s0 ?step ?done
    case low =>
      intro i o ho
      have hi : i < 10 := by
        have := (Array.getElem?_eq_some_iff.1 ho).1
        simpa using this
      have hc : i = 0 ∨ i = 1 ∨ i = 2 ∨ i = 3 ∨ i = 4 ∨ i = 5 ∨ i = 6 ∨ i = 7 ∨ i = 8 ∨ i = 9 := by omega
      rcases hc with rfl | rfl | rfl | rfl | rfl | rfl | rfl | rfl | rfl | rfl <;> (obtain rfl := Option.some.inj ho; simp)
    case inn =>
      intro i d hi hd
      have hle := (line_in i d hi hd).2
      exact Nat.lt_of_le_of_lt hle (of_decide_eq_true rfl)
    case stab => exact fun b' j u W W' hb h => h
    case drop => exact fun j u W hj => .inl ⟨rfl, hj⟩
    case late =>
      intro j o hj ho
      have hi : j < 10 := by
        have := (Array.getElem?_eq_some_iff.1 ho).1
        simpa using this
      obtain rfl : j = 9 := by omega
      obtain rfl := Option.some.inj ho
      exact ⟨⟨8, .chain⟩, by simp, rfl, rfl⟩
    case s0 => exact ⟨HA2.out.drew, fun _ => (Below.refl _ _).drew, fun h => by cases h⟩
    case done =>
      intro F W hS hR
      have h9 : F 9 = .int .i64 0 := by
        rcases hR 9 (by decide) with ⟨_, h⟩ | h | h
        · omega
        · omega
        · exact h
      have HE := Lib.hid (hS.2.2 rfl)
      have HBf := Lib.hid hS.1
      rw [line_put, h9]
      simp only [Act.put, List.setIfInBounds_toArray, List.set_cons_succ, List.set_cons_zero]
      clear hR hS h9
      go_wp2
      exact bodyPost_ret (ret_cell (load_line HE.out rfl) Tryz.results15 rfl rfl) rfl ⟨rfl, HBf.out⟩
    case step =>
      intro listed W hs' hcl hSW A0 F hget hR hold i o ho h0 hdep
      have hi : i < 10 := by
        have := (Array.getElem?_eq_some_iff.1 ho).1
        simpa using this
      have hc : i = 0 ∨ i = 1 ∨ i = 2 ∨ i = 3 ∨ i = 4 ∨ i = 5 ∨ i = 6 ∨ i = 7 ∨ i = 8 ∨ i = 9 := by omega
      have nm : i < 9 → listed.getD 8 false = false := by
        intro hi8
        cases hx : listed.getD 8 false with
        | false => rfl
        | true =>
          exfalso
          have l7 := hcl 8 _ rfl hx ⟨7, .data⟩ (by simp) rfl
          have l6 := hcl 7 _ rfl l7 ⟨6, .data⟩ (by simp) rfl
          have l4 := hcl 7 _ rfl l7 ⟨4, .data⟩ (by simp) rfl
          have l5 := hcl 6 _ rfl l6 ⟨5, .data⟩ (by simp) rfl
          have l3 := hcl 4 _ rfl l4 ⟨3, .data⟩ (by simp) rfl
          have l2 := hcl 3 _ rfl l3 ⟨2, .data⟩ (by simp) rfl
          have l1 := hcl 2 _ rfl l2 ⟨1, .data⟩ (by simp) rfl
          have l0 := hcl 1 _ rfl l1 ⟨0, .data⟩ (by simp) rfl
          rcases hc with rfl | rfl | rfl | rfl | rfl | rfl | rfl | rfl | rfl | rfl <;> first | omega | (simp_all)
      have Hsp := Lib.hid (show ∀ j, j < 8 → i < 9 → listed.getD j false = true → F j = lineVal w.heap.size k st sn sa sb X V j by
        intro j hj hi8 hlj
        rcases hR j (by omega) hlj with ⟨hx, _⟩ | h | h
        · rw [nm hi8] at hx; cases hx
        · omega
        · exact h)
      have Hget := Lib.hid hget
      have Hold := Lib.hid hold
      have HS := Lib.hid hSW
      have Nm := Lib.hid nm
      clear hget hcl hold hSW hR nm
      rcases hc with rfl | rfl | rfl | rfl | rfl | rfl | rfl | rfl | rfl | rfl
      · obtain rfl := Option.some.inj ho
        have e1 : A0.tmps.getD 1 undef = .pointer (some ⟨w.heap.size, 0, none⟩) := (Hold.out 1 (fun j hj hd => by have := (line_in j 1 hj hd).1; omega)).trans rfl
        refine wpOp_mono (fun a' w' (h : ∃ v, a' = A0.put (some 11) v ∧ Hid (v = lineVal w.heap.size k st sn sa sb X V 0) ∧ Hid (Below W.heap.size W w')) => by obtain ⟨v, h1, h2, h3⟩ := h; exact ⟨v, h1, .inl ⟨by decide, ⟨HS.out.1.trans (h3.out.mono HS.out.1.size), fun hx => (HS.out.2.1 hx).trans (h3.out.mono (HS.out.2.1 hx).size), fun hx => absurd (Nm.out (by decide)) (by rw [hx]; decide)⟩, .inr (.inr h2.out), h3.out⟩⟩) ?_
        refine wpOp_plain rfl rfl ?_
        clear hdep h0
        unfold Oper.wp
        go_simp
        exact ⟨_, rfl, Lib.hid rfl, Lib.hid (Below.refl _ _)⟩
      · obtain rfl := Option.some.inj ho
        have v0 : A0.tmps.getD 11 undef = .pointer (some ⟨w.heap.size, 0, none⟩) := (Hget.out 0 11 (by decide) (hdep ⟨0, .data⟩ (by simp) rfl) rfl).trans (Hsp.out 0 (by decide) (by decide) (hdep ⟨0, .data⟩ (by simp) rfl))
        have HGW := Lib.hid (HG2.out.kept (HS.out.2.1 (Nm.out (by decide))))
        have y0 := HGW.out.cell 0 rfl
        refine wpOp_mono (fun a' w' (h : ∃ v, a' = A0.put (some 12) v ∧ Hid (v = lineVal w.heap.size k st sn sa sb X V 1) ∧ Hid (Below W.heap.size W w')) => by obtain ⟨v, h1, h2, h3⟩ := h; exact ⟨v, h1, .inl ⟨by decide, ⟨HS.out.1.trans (h3.out.mono HS.out.1.size), fun hx => (HS.out.2.1 hx).trans (h3.out.mono (HS.out.2.1 hx).size), fun hx => absurd (Nm.out (by decide)) (by rw [hx]; decide)⟩, .inr (.inr h2.out), h3.out⟩⟩) ?_
        refine wpOp_plain rfl rfl ?_
        clear hdep h0
        unfold Oper.wp
        go_simp
        exact ⟨_, rfl, Lib.hid rfl, Lib.hid (Below.refl _ _)⟩
      · obtain rfl := Option.some.inj ho
        have v1 : A0.tmps.getD 12 undef = .int .i64 (k : Int) := (Hget.out 1 12 (by decide) (hdep ⟨1, .data⟩ (by simp) rfl) rfl).trans (Hsp.out 1 (by decide) (by decide) (hdep ⟨1, .data⟩ (by simp) rfl))
        refine wpOp_mono (fun a' w' (h : ∃ v, a' = A0.put (some 13) v ∧ Hid (v = lineVal w.heap.size k st sn sa sb X V 2) ∧ Hid (Below W.heap.size W w')) => by obtain ⟨v, h1, h2, h3⟩ := h; exact ⟨v, h1, .inl ⟨by decide, ⟨HS.out.1.trans (h3.out.mono HS.out.1.size), fun hx => (HS.out.2.1 hx).trans (h3.out.mono (HS.out.2.1 hx).size), fun hx => absurd (Nm.out (by decide)) (by rw [hx]; decide)⟩, .inr (.inr h2.out), h3.out⟩⟩) ?_
        refine wpOp_plain rfl rfl ?_
        clear hdep h0
        unfold Oper.wp
        go_simp
        exact ⟨_, rfl, Lib.hid rfl, Lib.hid (Below.refl _ _)⟩
      · obtain rfl := Option.some.inj ho
        have v2 : A0.tmps.getD 13 undef = .pointer (some ⟨0, k * 2, none⟩) := (Hget.out 2 13 (by decide) (hdep ⟨2, .data⟩ (by simp) rfl) rfl).trans (Hsp.out 2 (by decide) (by decide) (hdep ⟨2, .data⟩ (by simp) rfl))
        refine wpOp_mono (fun a' w' (h : ∃ v, a' = A0.put (some 14) v ∧ Hid (v = lineVal w.heap.size k st sn sa sb X V 3) ∧ Hid (Below W.heap.size W w')) => by obtain ⟨v, h1, h2, h3⟩ := h; exact ⟨v, h1, .inl ⟨by decide, ⟨HS.out.1.trans (h3.out.mono HS.out.1.size), fun hx => (HS.out.2.1 hx).trans (h3.out.mono (HS.out.2.1 hx).size), fun hx => absurd (Nm.out (by decide)) (by rw [hx]; decide)⟩, .inr (.inr h2.out), h3.out⟩⟩) ?_
        refine wpOp_plain rfl rfl ?_
        clear hdep h0
        unfold Oper.wp
        go_simp
        exact ⟨_, rfl, Lib.hid rfl, Lib.hid (Below.refl _ _)⟩
      · obtain rfl := Option.some.inj ho
        have v3 : A0.tmps.getD 14 undef = .pointer (some ⟨0, k * 2, none⟩) := (Hget.out 3 14 (by decide) (hdep ⟨3, .data⟩ (by simp) rfl) rfl).trans (Hsp.out 3 (by decide) (by decide) (hdep ⟨3, .data⟩ (by simp) rfl))
        have y0 := HN.out W HS.out.1
        refine wpOp_mono (fun a' w' (h : ∃ v, a' = A0.put (some 15) v ∧ Hid (v = lineVal w.heap.size k st sn sa sb X V 4) ∧ Hid (Below W.heap.size W w')) => by obtain ⟨v, h1, h2, h3⟩ := h; exact ⟨v, h1, .inl ⟨by decide, ⟨HS.out.1.trans (h3.out.mono HS.out.1.size), fun hx => (HS.out.2.1 hx).trans (h3.out.mono (HS.out.2.1 hx).size), fun hx => absurd (Nm.out (by decide)) (by rw [hx]; decide)⟩, .inr (.inr h2.out), h3.out⟩⟩) ?_
        refine wpOp_plain rfl rfl ?_
        clear hdep h0
        unfold Oper.wp
        go_simp
        exact ⟨_, rfl, Lib.hid rfl, Lib.hid (Below.refl _ _)⟩
      · obtain rfl := Option.some.inj ho
        have e1 : A0.tmps.getD 1 undef = .pointer (some ⟨w.heap.size, 0, none⟩) := (Hold.out 1 (fun j hj hd => by have := (line_in j 1 hj hd).1; omega)).trans rfl
        have HGW := Lib.hid (HG2.out.kept (HS.out.2.1 (Nm.out (by decide))))
        obtain ⟨y0, y1, y2, y3, y4⟩ := HGW.out.facts5.1
        refine wpOp_mono (fun a' w' (h : ∃ v, a' = A0.put (some 16) v ∧ Hid (v = lineVal w.heap.size k st sn sa sb X V 5) ∧ Hid (Below W.heap.size W w')) => by obtain ⟨v, h1, h2, h3⟩ := h; exact ⟨v, h1, .inl ⟨by decide, ⟨HS.out.1.trans (h3.out.mono HS.out.1.size), fun hx => (HS.out.2.1 hx).trans (h3.out.mono (HS.out.2.1 hx).size), fun hx => absurd (Nm.out (by decide)) (by rw [hx]; decide)⟩, .inr (.inr h2.out), h3.out⟩⟩) ?_
        refine wpOp_plain rfl rfl ?_
        clear hdep h0
        unfold Oper.wp
        go_simp
        exact ⟨_, rfl, Lib.hid rfl, Lib.hid (Below.refl _ _)⟩
      · obtain rfl := Option.some.inj ho
        have v5 : A0.tmps.getD 16 undef = .agg #[.int .i64 (k : Int), .string st, .int .i64 sn, .int .u32 (sa : Int), .int .i64 sb] := (Hget.out 5 16 (by decide) (hdep ⟨5, .data⟩ (by simp) rfl) rfl).trans (Hsp.out 5 (by decide) (by decide) (hdep ⟨5, .data⟩ (by simp) rfl))
        have v5' : A0.tmps[16]?.getD undef = .agg #[.int .i64 (k : Int), .string st, .int .i64 sn, .int .u32 (sa : Int), .int .i64 sb] := by simpa using v5
        refine wpOp_mono (fun a' w' (h : ∃ v, a' = A0.put (some 17) v ∧ Hid (v = lineVal w.heap.size k st sn sa sb X V 6) ∧ Hid (Below W.heap.size W w')) => by obtain ⟨v, h1, h2, h3⟩ := h; exact ⟨v, h1, .inl ⟨by decide, ⟨HS.out.1.trans (h3.out.mono HS.out.1.size), fun hx => (HS.out.2.1 hx).trans (h3.out.mono (HS.out.2.1 hx).size), fun hx => absurd (Nm.out (by decide)) (by rw [hx]; decide)⟩, .inr (.inr h2.out), h3.out⟩⟩) ?_
        refine wpOp_plain rfl rfl ?_
        clear hdep h0
        unfold Oper.wp
        go_simp
        refine (HW.out W HS.out.1).mono ?_
        rintro e W' ⟨rfl, hb⟩
        exact ⟨_, rfl, Lib.hid rfl, Lib.hid hb⟩
      · obtain rfl := Option.some.inj ho
        have v4 : A0.tmps.getD 15 undef = .string X := (Hget.out 4 15 (by decide) (hdep ⟨4, .data⟩ (by simp) rfl) rfl).trans (Hsp.out 4 (by decide) (by decide) (hdep ⟨4, .data⟩ (by simp) rfl))
        have v6 : A0.tmps.getD 17 undef = .string V := (Hget.out 6 17 (by decide) (hdep ⟨6, .data⟩ (by simp) rfl) rfl).trans (Hsp.out 6 (by decide) (by decide) (hdep ⟨6, .data⟩ (by simp) rfl))
        have v4' : A0.tmps[15]?.getD undef = .string X := by simpa using v4
        have v6' : A0.tmps[17]?.getD undef = .string V := by simpa using v6
        refine wpOp_mono (fun a' w' (h : ∃ v, a' = A0.put (some 18) v ∧ Hid (v = lineVal w.heap.size k st sn sa sb X V 7) ∧ Hid (Below W.heap.size W w')) => by obtain ⟨v, h1, h2, h3⟩ := h; exact ⟨v, h1, .inl ⟨by decide, ⟨HS.out.1.trans (h3.out.mono HS.out.1.size), fun hx => (HS.out.2.1 hx).trans (h3.out.mono (HS.out.2.1 hx).size), fun hx => absurd (Nm.out (by decide)) (by rw [hx]; decide)⟩, .inr (.inr h2.out), h3.out⟩⟩) ?_
        refine wpOp_plain rfl rfl ?_
        clear hdep h0
        unfold Oper.wp
        go_simp
        exact ⟨_, rfl, Lib.hid rfl, Lib.hid (Below.refl _ _)⟩
      · obtain rfl := Option.some.inj ho
        have v7 : A0.tmps.getD 18 undef = .agg #[.string X, .string V] := (Hget.out 7 18 (by decide) (hdep ⟨7, .data⟩ (by simp) rfl) rfl).trans (Hsp.out 7 (by decide) (by decide) (hdep ⟨7, .data⟩ (by simp) rfl))
        have v7' : A0.tmps[18]?.getD undef = .agg #[.string X, .string V] := by simpa using v7
        have e2 : A0.tmps.getD 2 undef = .pointer (some ⟨w.heap.size + 1, 0, none⟩) := (Hold.out 2 (fun j hj hd => by have := (line_in j 2 hj hd).1; omega)).trans rfl
        have hRW := HR2.out.kept (HS.out.2.1 (Nm.out (by decide)))
        have c0 := hRW.cell 0 rfl
        have c1 := hRW.cell 1 rfl
        have f0 := hRW.frozen (by decide) 0
        have f1 := hRW.frozen (by decide) 1
        have HE := Lib.hid (hRW.set2 (.string X) (.string V))
        have HBE := Lib.hid ((HS.out.1.setCell (p := ⟨w.heap.size + 1, 0, none⟩) (Nat.le_succ _) (.string X)).setCell (p := ⟨w.heap.size + 1, 1, none⟩) (Nat.le_succ _) (.string V))
        clear hRW
        refine wpOp_mono (fun a' w' (h : ∃ v, a' = A0.put none v ∧ Hid (Blk w' (w.heap.size + 1) 23 [.string X, .string V]) ∧ Hid (Below w.heap.size w w')) => by obtain ⟨v, h1, h2, h3⟩ := h; exact ⟨v, h1, .inr ⟨rfl, ⟨h3.out, fun hx => (by cases hx), fun _ => h2.out⟩, .inr (.inl rfl)⟩⟩) ?_
        refine wpOp_plain rfl rfl ?_
        clear hdep h0
        unfold Oper.wp
        go_simp
        all_goals exact ⟨undef, rfl, HE, HBE⟩
      · obtain rfl := Option.some.inj ho
        have l8 := hdep ⟨8, .chain⟩ (by simp) rfl
        refine wpOp_mono (fun a' w' (h : ∃ v, a' = A0.put (some 3) v ∧ Hid (v = .int .i64 0) ∧ Hid (w' = W)) => by obtain ⟨v, h1, h2, h3⟩ := h; exact ⟨v, h1, .inl ⟨by decide, by rw [h3.out]; exact HS.out, .inr (.inr h2.out), by rw [h3.out]; exact Below.refl _ _⟩⟩) ?_
        refine wpOp_plain rfl rfl ?_
        clear hdep h0
        unfold Oper.wp
        go_simp
        exact ⟨_, rfl, Lib.hid rfl, Lib.hid (by trivial)⟩
  · have Hl : Hid (Bt.line s = ⟨⟨#[]⟩, ⟨#[]⟩⟩) := Lib.hid (by unfold Bt.line; rw [if_neg he]; rfl)
    have hn : ((Bt.err s : Int) != 0) = true := by simpa using he
    rw [Hl.out]
    obtain ⟨sk, st, sn, sa, sb⟩ := s
    have hw1' : w1 = (w.alloc (.cells #[.int .i64 sk, .string st, .int .i64 sn, .int .u32 (sa : Int), .int .i64 sb] 28)).alloc (.cells #[.string ⟨#[]⟩, .string ⟨#[]⟩] 23) := hw1
    obtain ⟨⟨g0, g1, g2, g3, g4⟩, -⟩ := hG.facts5
    clear he hA hG hR hw1
    generalize Bt.err ⟨sk, st, sn, sa, sb⟩ = r at *
    unfold setV at HC ⊢
    unfold lineV
    go_enter Tryz.func15, Tryz.ntmps15
    go_upto_region 1 with fail
    rw [← hw1']
    clear hw1'
    go_wp2_with fail
    refine (HC.out w1 HA.out).mono ?_
    rintro e w2 ⟨rfl, hb2⟩
    have hR2 := HR.out.kept hb2
    have c0 := hR2.cell 0 rfl
    have c1 := hR2.cell 1 rfl
    have f0 := hR2.frozen (by decide) 0
    have f1 := hR2.frozen (by decide) 1
    have HE := Lib.hid (hR2.set2 (.string ⟨#[]⟩) (.string ⟨#[]⟩))
    have HB2 := Lib.hid (HA.out.trans (hb2.mono HA.out.size))
    clear hR2 hb2 g0 g1 g2 g3 g4
    go_wp2
    exact bodyPost_ret (ret_cell (load_line HE.out rfl) Tryz.results15 rfl rfl) rfl ⟨rfl, (HB2.out.setCell (p := ⟨w.heap.size + 1, 0, none⟩) (Nat.le_succ _) _).setCell (p := ⟨w.heap.size + 1, 1, none⟩) (Nat.le_succ _) _⟩
end Go.Proofs.YthlagpmacnijfaaGreatDoor

namespace Go.Proofs.YthlagpmacnijfaaGreatDoor.Bt
open Ln (ofT)

/-- The setting of a kind whose line has a value, if there is one. -/
def guess (k : Int) (v : ByteArray) : S :=
  if fld k = 1 then ⟨k, if k = 6 ∧ v = zeros then ⟨#[]⟩ else v, 0, 0, 0⟩ else
  if fld k = 2 then ⟨k, ⟨#[]⟩, (Ad.numOut v.data.toList 65535 : Int), 0, 0⟩ else
  if fld k = 3 then ⟨k, ⟨#[]⟩, 0, Nt.parAddr v.data.toList, (Nt.parBits v.data.toList : Int)⟩ else ⟨k, ⟨#[]⟩, 0, 0, 0⟩
theorem guess_val {s : S} (hs : err s = 0) (ha : s.a < 4294967296) : guess s.k (val s) = s := by
  obtain ⟨hs1, hs2⟩ := err_in hs
  obtain ⟨a1, a2, a3⟩ := more_of hs2
  obtain ⟨r1, r2, r3⟩ := err_rest hs
  have hf : fld s.k = 0 ∨ fld s.k = 1 ∨ fld s.k = 2 ∨ fld s.k = 3 := by
    rcases fld_cases s.k hs1.1 hs1.2 with h | h | h | h | h | h | h | h | h | h <;> rw [h] <;> decide
  have ht : fld s.k ≠ 1 → s.t = ⟨#[]⟩ := fun h => empty_of (by omega)
  unfold guess
  rcases hf with hf | hf | hf | hf
  · rw [if_neg (by omega), if_neg (by omega), if_neg (by omega)]
    have e1 := ht (by omega)
    obtain ⟨k, t, n, a, b⟩ := s
    simp only at *
    rw [e1]
    congr 1 <;> omega
  · rw [if_pos hf]
    have e2 : (if s.k = 6 ∧ val s = zeros then (⟨#[]⟩ : ByteArray) else val s) = s.t := by
      by_cases h6 : s.k = 6
      · by_cases h0 : s.t.size = 0
        · rw [val_six h6, if_pos h0, if_pos ⟨h6, rfl⟩, empty_of h0]
        · rw [val_six h6, if_neg h0, if_neg (fun h => r3 h6 h0 h.2)]
      · rw [if_neg (fun h => h6 h.1), val_text hf h6]
    rw [e2]
    obtain ⟨k, t, n, a, b⟩ := s
    simp only at *
    congr 1 <;> omega
  · rw [if_neg (by omega), if_pos hf]
    have e1 := ht (by omega)
    have e2 := num_itoa (r1 hf).1 (r1 hf).2
    rw [val_num hf]
    show (⟨s.k, ⟨#[]⟩, (Ad.numOut (Lib.itoa s.n) 65535 : Int), 0, 0⟩ : S) = s
    rw [e2]
    obtain ⟨k, t, n, a, b⟩ := s
    simp only at *
    rw [e1]
    congr 1 <;> omega
  · rw [if_neg (by omega), if_neg (by omega), if_pos hf]
    have h10 : s.k = 10 := by
      rcases fld_cases s.k hs1.1 hs1.2 with h | h | h | h | h | h | h | h | h | h <;> first | exact h | (rw [h] at hf; exact absurd hf (by decide))
    have e1 := ht (by omega)
    obtain ⟨e2, e3⟩ := net_text ha (r2 hf)
    rw [val_net h10]
    show (⟨s.k, ⟨#[]⟩, 0, Nt.parAddr (Nt.textOut s.a s.b), (Nt.parBits (Nt.textOut s.a s.b) : Int)⟩ : S) = s
    rw [e2, e3]
    obtain ⟨k, t, n, a, b⟩ := s
    simp only at *
    rw [e1]
    congr 1 <;> omega
theorem guess_k (k : Int) (v : ByteArray) : (guess k v).k = k := by
  unfold guess
  split
  · rfl
  · split
    · rfl
    · split <;> rfl
theorem guess_ok (k : Int) (v : ByteArray) (hv : v.size ≤ 1048576) : (guess k v).t.size ≤ 1048576 ∧ (guess k v).a < 4294967296 ∧ -9223372036854775808 ≤ (guess k v).n ∧ (guess k v).n ≤ 9223372036854775807 := by
  have hn := numOut_lt v.data.toList 65535
  have hp := (par_lt v.data.toList).1
  unfold guess
  split
  · refine ⟨?_, by show (0 : Nat) < _; omega, by show _ ≤ (0 : Int); omega, by show (0 : Int) ≤ _; omega⟩
    show ByteArray.size (if k = 6 ∧ v = zeros then (⟨#[]⟩ : ByteArray) else v) ≤ _
    split
    · show (0 : Nat) ≤ _; omega
    · exact hv
  · split
    · refine ⟨by show (0 : Nat) ≤ _; omega, by show (0 : Nat) < _; omega, ?_, ?_⟩
      · show _ ≤ ((Ad.numOut v.data.toList 65535 : Nat) : Int); omega
      · show ((Ad.numOut v.data.toList 65535 : Nat) : Int) ≤ _; omega
    · split
      · exact ⟨by show (0 : Nat) ≤ _; omega, hp, by show _ ≤ (0 : Int); omega, by show (0 : Int) ≤ _; omega⟩
      · exact ⟨by show (0 : Nat) ≤ _; omega, by show (0 : Nat) < _; omega, by show _ ≤ (0 : Int); omega, by show (0 : Int) ≤ _; omega⟩
/-- The setting of a line, by its guess. -/
theorem of_guess (l : Ln.L) (hv : l.v.size ≤ 1048576) : ofLine l = if kindOf l.k = 0 then (zeroS, 2) else
    if err (guess (kindOf l.k) l.v) = 0 ∧ line (guess (kindOf l.k) l.v) = l then (guess (kindOf l.k) l.v, 0) else (zeroS, 3) := by
  by_cases hk : kindOf l.k = 0
  · unfold ofLine
    rw [if_pos hk, if_pos hk]
  · rw [if_neg hk]
    have hg := (guess_ok (kindOf l.k) l.v hv).2.1
    by_cases h : err (guess (kindOf l.k) l.v) = 0 ∧ line (guess (kindOf l.k) l.v) = l
    · rw [if_pos h]
      have := of_line h.1 hg
      rw [h.2] at this
      exact this
    · rw [if_neg h]
      unfold ofLine
      rw [if_neg hk]
      unfold pick1
      cases hf : (cands (kindOf l.k) l.v).find? (fits l) with
      | none => rfl
      | some x =>
        exfalso
        have hx := List.find?_some hf
        have hxm := List.mem_of_find?_eq_some hf
        unfold fits at hx
        obtain ⟨x1, x2⟩ := of_decide_eq_true hx
        have hxa := (cands_ok _ _ hv x hxm).2.1
        have hxk : x.k = ((kindOf l.k : Nat) : Int) := by
          unfold cands at hxm
          simp only [List.mem_cons, List.not_mem_nil, or_false] at hxm
          rcases hxm with rfl | rfl | rfl | rfl <;> rfl
        have hxl : line x = lineOf x := by unfold line; rw [if_pos x1]
        have hxv : l.v = val x := by rw [← x2, hxl]; rfl
        have e := guess_val x1 hxa
        rw [hxk, ← hxv] at e
        exact h (by rw [e]; exact ⟨x1, x2⟩)
end Go.Proofs.YthlagpmacnijfaaGreatDoor.Bt
