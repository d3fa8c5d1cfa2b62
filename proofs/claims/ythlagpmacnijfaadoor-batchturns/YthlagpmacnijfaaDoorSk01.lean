/- Texts and pairs of texts: the same or not, as the walks ask. -/
import Derived.Test.YthlagpmacnijfaaDoorRows
import Derived.Test.YthlagpmacnijfaaDoorHexPlain
import Derived.Test.YthlagpmacnijfaaDoorMem
import Derived.Test.YthlagpmacnijfaaDoorBatchBits
import Derived.Test.YthlagpmacnijfaaDoorBatchMem
import Derived.Laws.StructEq
import Derived.BigQuiet
import Derived.Test.YthlagpmacnijfaaDoorBatchCode3
import Derived.Test.YthlagpmacnijfaaDoorNetCode1
import Derived.Test.YthlagpmacnijfaaDoorAddrCode
import Derived.StillTailTactics
import Derived.Orders
import Derived.Below
import Derived.Test.YthlagpmacnijfaaDoorBatchSetBlk
import Derived.Deep.DeepCutAuto
import Derived.WideShapes
namespace Go.Proofs.YthlagpmacnijfaaDoor
open Go.RowKit

set_option maxHeartbeats 400000 in
theorem hex_value (c : UInt8) (w : World) :
    Calls Tryd.prog 73 #[.int .u8 (c.toNat : Int)] w fun e w' => e = .returned (.tuple #[.int .u8 (Hx.digVal c : Int), .bool (Hx.isDig c)]) ∧ w = w' := by
  have hc := c.toNat_lt
  by_cases h1 : 48 ≤ c.toNat <;> by_cases h2 : c.toNat ≤ 57 <;> by_cases h3 : 97 ≤ c.toNat <;> by_cases h4 : c.toNat ≤ 102 <;> first
  | omega
  | (go_enter Tryd.func73, Tryd.ntmps73
     go_wp2
     go_ret2
     exact ⟨ret_int_bool (by simp [Hx.digVal, *]; try omega) (by simp [Hx.isDig, *]), rfl⟩)

def allD (s : ByteArray) : Bool := s.data.toList.all Hx.isDig
theorem allD_step (s : ByteArray) (k : Nat) (h : k < s.size) : ((s.data.toList.take (k + 1)).all Hx.isDig) = ((s.data.toList.take k).all Hx.isDig && Hx.isDig s[k]) := by
  rw [List.take_succ_eq_append_getElem (by simpa using h)]
  simp [List.all_append]; rfl
theorem allD_no (s : ByteArray) (k : Nat) (h : k < s.size) (hn : Hx.isDig s[k] = false) : allD s = false := by
  unfold allD
  rw [List.all_eq_false]
  exact ⟨s[k], by simp [ByteArray.getElem_eq_getElem_data], by simp [hn]⟩

set_option maxHeartbeats 400000 in
theorem hex_allDigits (s : ByteArray) (w : World) (hs : s.size ≤ maxLen) :
    Calls Tryd.prog 48 #[.string s] w fun e w' => e = .returned (.bool (allD s)) ∧ w = w' := by
  unfold maxLen at hs
  go_enter Tryd.func48, Tryd.ntmps48
  go_wp2
  go_loop [8] (fun i => ∃ k : Nat, k ≤ s.size ∧ i = .int .i64 k ∧ Hid ((s.data.toList.take k).all Hx.isDig = true)) (fun i => s.size - (intOf i).toNat)
  case atStart => exact ⟨0, Nat.zero_le _, rfl, Lib.hid rfl⟩
  case round =>
    obtain ⟨k, hk, rfl, H⟩ := hrel
    by_cases hlt : k < s.size
    · cases hd : Hx.isDig s[k]
      · have Hn := Lib.hid (allD_no s k hlt hd)
        go_wp2_with (go_at_call 73; refine (hex_value _ _).mono ?_; rintro e w' ⟨rfl, rfl⟩)
        go_ret
        exact ⟨by rw [Hn.out]; rfl, rfl⟩
      · have Hn := Lib.hid (show (s.data.toList.take (k + 1)).all Hx.isDig = true by rw [allD_step s k hlt, H.out, hd]; rfl)
        go_wp2_with (go_at_call 73; refine (hex_value _ _).mono ?_; rintro e w' ⟨rfl, rfl⟩)
        go_round
        case rel => exact ⟨k + 1, by omega, by go_num, Hn⟩
        case measure => simp [intOf]; omega
    · go_wp2
      go_ret
      exact ⟨by unfold allD; rw [← H.out, List.take_of_length_le (by simp; omega)]; rfl, rfl⟩

theorem allD_err (s : ByteArray) : Hx.checkErr s.data.toList = if s.size ≠ 64 then 1 else if allD s = false then 3 else 0 := by
  simp [Hx.checkErr, allD]

set_option maxHeartbeats 400000 in
theorem hex_Check (s : ByteArray) (w : World) (hs : s.size ≤ maxLen) :
    Calls Tryd.prog 21 #[.string s] w fun e w' => e = .returned (.int .i64 (Hx.checkErr s.data.toList : Int)) ∧ w = w' := by
  rw [allD_err]
  have hs' := hs
  unfold maxLen at hs'
  generalize hz : (if s.size ≠ 64 then 1 else if allD s = false then 3 else 0 : Nat) = r
  have Hz := Lib.hid hz
  clear hz
  by_cases h : s.size = 64
  · have h1 : ((s.size : Int) != 64) = false := by simp [h]
    have H := Lib.hid h
    clear h
    cases hd : allD s <;>
    · have Hd := Lib.hid hd
      go_enter Tryd.func21, Tryd.ntmps21
      go_wp2_with (go_at_call 48; refine (hex_allDigits _ _ hs).mono ?_; rintro e w' ⟨rfl, rfl⟩)
      go_ret
      exact ⟨ret_int (by rw [← Hz.out]; simp [H.out, Hd.out]), rfl⟩
  · have h1 : ((s.size : Int) != 64) = true := by simp; omega
    go_enter Tryd.func21, Tryd.ntmps21
    go_wp2
    go_ret
    exact ⟨ret_int (by rw [← Hz.out]; simp [h]), rfl⟩
end Go.Proofs.YthlagpmacnijfaaDoor

namespace Go.Proofs.YthlagpmacnijfaaDoor
open Go.RowKit

set_option maxRecDepth 20000 in
set_option maxHeartbeats 8000000 in
theorem batch_hasOthers (k : Int) (t : ByteArray) (n : Int) (a : Nat) (b : Int) (f : Nat) (hf : f ≤ 3) (w : World) :
    Calls Tryd.prog 20 #[setV ⟨k, t, n, a, b⟩, .int .i64 (f : Int)] w fun e w' => e = .returned (.bool (Bt.others t n a b f)) ∧ Below w.heap.size w w' := by
  have HB : Hid (∀ o, Below w.heap.size w (w.alloc o)) := Lib.hid fun o => (Below.refl _ _).alloc (Nat.le_refl _) _
  obtain ⟨ht, hn, hc⟩ := bool_parts t n a b
  unfold setV
  have h4 : f = 0 ∨ f = 1 ∨ f = 2 ∨ f = 3 := by omega
  clear hf
  rcases h4 with rfl | rfl | rfl | rfl <;> rcases ht with te | rfl <;> rcases hn with n0 | rfl <;> rcases hc with a0 | ⟨rfl, b0⟩ | ⟨rfl, rfl⟩
  all_goals
    go_enter Tryd.func20, Tryd.ntmps20
    go_wp2
    go_ret
    exact ⟨by simp [Bt.others, *], HB.out _⟩
theorem batch_checkNumber (n m : Int) (w : World) :
    Calls Tryd.prog 25 #[.int .i64 n, .int .i64 m] w fun e w' => e = .returned (.int .i64 ((if n < 0 ∨ m < n then 4 else 0 : Nat) : Int)) ∧ w = w' := by
  by_cases h1 : n < 0
  · have d1 : decide (n < 0) = true := decide_eq_true h1
    rw [if_pos (.inl h1)]
    go_enter Tryd.func25, Tryd.ntmps25
    go_wp2
    go_ret
    exact ⟨rfl, rfl⟩
  · have d1 : decide (n < 0) = false := decide_eq_false h1
    by_cases h2 : m < n
    · have d2 : decide (m < n) = true := decide_eq_true h2
      rw [if_pos (.inr h2)]
      go_enter Tryd.func25, Tryd.ntmps25
      go_wp2
      go_ret
      exact ⟨rfl, rfl⟩
    · have d2 : decide (m < n) = false := decide_eq_false h2
      rw [if_neg (by omega)]
      go_enter Tryd.func25, Tryd.ntmps25
      go_wp2
      go_ret
      exact ⟨rfl, rfl⟩
set_option maxRecDepth 20000 in
set_option maxHeartbeats 4000000 in
theorem batch_checkShared (t : ByteArray) (w : World) (hs : t.size ≤ maxLen) :
    Calls Tryd.prog 22 #[.string t] w fun e w' => e = .returned (.int .i64 ((if t.size = 0 then 0 else if t = Bt.zeros then 3 else Hx.checkErr t.data.toList : Nat) : Int)) ∧ w = w' := by
  by_cases h0 : t.size = 0
  · have te : t.toList.isEmpty = true := by rw [empty_size, decide_eq_true h0]
    rw [if_pos h0]
    clear hs h0
    go_enter Tryd.func22, Tryd.ntmps22
    go_wp2
    go_ret
    exact ⟨rfl, rfl⟩
  · have te : t.toList.isEmpty = false := by rw [empty_size, decide_eq_false h0]
    rw [if_neg h0]
    clear h0
    rw [Bt.zeros_lit]
    by_cases hz : t = ⟨#[48, 48, 48, 48, 48, 48, 48, 48, 48, 48, 48, 48, 48, 48, 48, 48, 48, 48, 48, 48, 48, 48, 48, 48, 48, 48, 48, 48, 48, 48, 48, 48, 48, 48, 48, 48, 48, 48, 48, 48, 48, 48, 48, 48, 48, 48, 48, 48, 48, 48, 48, 48, 48, 48, 48, 48, 48, 48, 48, 48, 48, 48, 48, 48]⟩
    · rw [if_pos hz]
      have dz : (t.toList == [48, 48, 48, 48, 48, 48, 48, 48, 48, 48, 48, 48, 48, 48, 48, 48, 48, 48, 48, 48, 48, 48, 48, 48, 48, 48, 48, 48, 48, 48, 48, 48, 48, 48, 48, 48, 48, 48, 48, 48, 48, 48, 48, 48, 48, 48, 48, 48, 48, 48, 48, 48, 48, 48, 48, 48, 48, 48, 48, 48, 48, 48, 48, 48]) = true := by rw [hz, ByteArray.toList_eq]; decide
      clear hz hs
      go_enter Tryd.func22, Tryd.ntmps22
      go_wp2
      go_ret
      exact ⟨rfl, rfl⟩
    · rw [if_neg hz]
      have dz : (t.toList == [48, 48, 48, 48, 48, 48, 48, 48, 48, 48, 48, 48, 48, 48, 48, 48, 48, 48, 48, 48, 48, 48, 48, 48, 48, 48, 48, 48, 48, 48, 48, 48, 48, 48, 48, 48, 48, 48, 48, 48, 48, 48, 48, 48, 48, 48, 48, 48, 48, 48, 48, 48, 48, 48, 48, 48, 48, 48, 48, 48, 48, 48, 48, 48]) = false := by
        refine beq_eq_false_iff_ne.2 fun e => hz ?_
        rw [ByteArray.toList_eq] at e
        exact WideShapes.bytes_inj (by rw [e])
      have HF := Lib.hid (hex_Check t w hs)
      clear hz hs
      generalize Hx.checkErr t.data.toList = r at *
      go_enter Tryd.func22, Tryd.ntmps22
      go_wp2_with fail
      refine HF.out.mono ?_
      rintro e w1 ⟨rfl, rfl⟩
      go_wp2
      go_ret
      exact ⟨rfl, rfl⟩
end Go.Proofs.YthlagpmacnijfaaDoor

namespace Go.Proofs.YthlagpmacnijfaaDoor
open Go.RowKit

set_option maxRecDepth 20000 in
set_option maxHeartbeats 8000000 in
/-- Kinds that have nothing. -/
theorem check_none (k : Int) (hk : k = 3 ∨ k = 5 ∨ k = 9) (t : ByteArray) (n : Int) (a : Nat) (b : Int) (w : World) (hT : BTabs w) :
    Calls Tryd.prog 7 #[setV ⟨k, t, n, a, b⟩] w fun e w' => e = .returned (.int .i64 ((if Bt.others t n a b 0 = true then 3 else 0 : Nat) : Int)) ∧ Below w.heap.size w w' := by
  have HO := Lib.hid (fun k W => batch_hasOthers k t n a b 0 (by decide) W)
  have hlt := hT.2.1
  have HT := Lib.hid hT
  unfold setV at HO ⊢
  generalize Bt.others t n a b 0 = r at *
  cases r with
  | true =>
    rw [if_pos rfl]
    rcases hk with rfl | rfl | rfl
    · obtain ⟨w1, hw1⟩ : ∃ w1, w1 = w.alloc (.cells #[.int .i64 3, .string t, .int .i64 n, .int .u32 (a : Int), .int .i64 b] 26) := ⟨_, rfl⟩
      have hA : Below w.heap.size w w1 := by rw [hw1]; exact (Below.refl _ _).alloc (Nat.le_refl _) _
      have c := (hT.2.below hA).at 3 (by decide) 7 0 rfl rfl
      have HA := Lib.hid hA.drew
      have HG := Lib.hid (show Blk w1 w.heap.size 26 [.int .i64 3, .string t, .int .i64 n, .int .u32 (a : Int), .int .i64 b] by rw [hw1]; exact Blk.new w _ _)
      obtain ⟨⟨b0, b1, b2, b3, b4⟩, -⟩ := HG.out.facts5
      have q : ∀ ad : Addr, ({ heap := w1.heap, tape := w1.tape, drawn := w1.drawn + 1, os := w1.os, output := w1.output } : World).cell? ad = w1.cell? ad := fun _ => rfl
      clear hT hA
      go_enter Tryd.func7, Tryd.ntmps7
      go_wp2_with fail
      rw [← hw1]
      clear hw1
      go_still_tail 6, (by kernel_rfl)
      change wpList _ _ _ _ _ w1.drew
      clear q c b0 b1 b2 b3 b4
      obtain ⟨wd, hwd⟩ : ∃ wd, wd = w1.drew := ⟨_, rfl⟩
      have HGd := Lib.hid (show Blk wd w.heap.size 26 [.int .i64 3, .string t, .int .i64 n, .int .u32 (a : Int), .int .i64 b] by rw [hwd]; exact HG.out)
      rw [← hwd] at HA ⊢
      clear hwd HG
      go_wp2_with fail
      refine (HO.out 3 wd).mono ?_
      rintro e w2 ⟨rfl, hb2⟩
      have hG2 := HGd.out.kept hb2
      have HB2 := Lib.hid (HA.out.trans (hb2.mono HA.out.size))
      obtain ⟨⟨b0, b1, b2, b3, b4⟩, -⟩ := hG2.facts5
      have hgl := hG2.lt
      clear hb2 hG2 HGd HA HO
      go_wp2
      go_ret
      exact ⟨rfl, HB2.out⟩
    · obtain ⟨w1, hw1⟩ : ∃ w1, w1 = w.alloc (.cells #[.int .i64 5, .string t, .int .i64 n, .int .u32 (a : Int), .int .i64 b] 26) := ⟨_, rfl⟩
      have hA : Below w.heap.size w w1 := by rw [hw1]; exact (Below.refl _ _).alloc (Nat.le_refl _) _
      have c := (hT.2.below hA).at 5 (by decide) 11 0 rfl rfl
      have HA := Lib.hid hA.drew
      have HG := Lib.hid (show Blk w1 w.heap.size 26 [.int .i64 5, .string t, .int .i64 n, .int .u32 (a : Int), .int .i64 b] by rw [hw1]; exact Blk.new w _ _)
      obtain ⟨⟨b0, b1, b2, b3, b4⟩, -⟩ := HG.out.facts5
      have q : ∀ ad : Addr, ({ heap := w1.heap, tape := w1.tape, drawn := w1.drawn + 1, os := w1.os, output := w1.output } : World).cell? ad = w1.cell? ad := fun _ => rfl
      clear hT hA
      go_enter Tryd.func7, Tryd.ntmps7
      go_wp2_with fail
      rw [← hw1]
      clear hw1
      go_still_tail 6, (by kernel_rfl)
      change wpList _ _ _ _ _ w1.drew
      clear q c b0 b1 b2 b3 b4
      obtain ⟨wd, hwd⟩ : ∃ wd, wd = w1.drew := ⟨_, rfl⟩
      have HGd := Lib.hid (show Blk wd w.heap.size 26 [.int .i64 5, .string t, .int .i64 n, .int .u32 (a : Int), .int .i64 b] by rw [hwd]; exact HG.out)
      rw [← hwd] at HA ⊢
      clear hwd HG
      go_wp2_with fail
      refine (HO.out 5 wd).mono ?_
      rintro e w2 ⟨rfl, hb2⟩
      have hG2 := HGd.out.kept hb2
      have HB2 := Lib.hid (HA.out.trans (hb2.mono HA.out.size))
      obtain ⟨⟨b0, b1, b2, b3, b4⟩, -⟩ := hG2.facts5
      have hgl := hG2.lt
      clear hb2 hG2 HGd HA HO
      go_wp2
      go_ret
      exact ⟨rfl, HB2.out⟩
    · obtain ⟨w1, hw1⟩ : ∃ w1, w1 = w.alloc (.cells #[.int .i64 9, .string t, .int .i64 n, .int .u32 (a : Int), .int .i64 b] 26) := ⟨_, rfl⟩
      have hA : Below w.heap.size w w1 := by rw [hw1]; exact (Below.refl _ _).alloc (Nat.le_refl _) _
      have c := (hT.2.below hA).at 9 (by decide) 19 0 rfl rfl
      have HA := Lib.hid hA.drew
      have HG := Lib.hid (show Blk w1 w.heap.size 26 [.int .i64 9, .string t, .int .i64 n, .int .u32 (a : Int), .int .i64 b] by rw [hw1]; exact Blk.new w _ _)
      obtain ⟨⟨b0, b1, b2, b3, b4⟩, -⟩ := HG.out.facts5
      have q : ∀ ad : Addr, ({ heap := w1.heap, tape := w1.tape, drawn := w1.drawn + 1, os := w1.os, output := w1.output } : World).cell? ad = w1.cell? ad := fun _ => rfl
      clear hT hA
      go_enter Tryd.func7, Tryd.ntmps7
      go_wp2_with fail
      rw [← hw1]
      clear hw1
      go_still_tail 6, (by kernel_rfl)
      change wpList _ _ _ _ _ w1.drew
      clear q c b0 b1 b2 b3 b4
      obtain ⟨wd, hwd⟩ : ∃ wd, wd = w1.drew := ⟨_, rfl⟩
      have HGd := Lib.hid (show Blk wd w.heap.size 26 [.int .i64 9, .string t, .int .i64 n, .int .u32 (a : Int), .int .i64 b] by rw [hwd]; exact HG.out)
      rw [← hwd] at HA ⊢
      clear hwd HG
      go_wp2_with fail
      refine (HO.out 9 wd).mono ?_
      rintro e w2 ⟨rfl, hb2⟩
      have hG2 := HGd.out.kept hb2
      have HB2 := Lib.hid (HA.out.trans (hb2.mono HA.out.size))
      obtain ⟨⟨b0, b1, b2, b3, b4⟩, -⟩ := hG2.facts5
      have hgl := hG2.lt
      clear hb2 hG2 HGd HA HO
      go_wp2
      go_ret
      exact ⟨rfl, HB2.out⟩
  | false =>
    rw [if_neg (by decide)]
    rcases hk with rfl | rfl | rfl
    · obtain ⟨w1, hw1⟩ : ∃ w1, w1 = w.alloc (.cells #[.int .i64 3, .string t, .int .i64 n, .int .u32 (a : Int), .int .i64 b] 26) := ⟨_, rfl⟩
      have hA : Below w.heap.size w w1 := by rw [hw1]; exact (Below.refl _ _).alloc (Nat.le_refl _) _
      have c := (hT.2.below hA).at 3 (by decide) 7 0 rfl rfl
      have HA := Lib.hid hA.drew
      have HG := Lib.hid (show Blk w1 w.heap.size 26 [.int .i64 3, .string t, .int .i64 n, .int .u32 (a : Int), .int .i64 b] by rw [hw1]; exact Blk.new w _ _)
      obtain ⟨⟨b0, b1, b2, b3, b4⟩, -⟩ := HG.out.facts5
      have q : ∀ ad : Addr, ({ heap := w1.heap, tape := w1.tape, drawn := w1.drawn + 1, os := w1.os, output := w1.output } : World).cell? ad = w1.cell? ad := fun _ => rfl
      clear hT hA
      go_enter Tryd.func7, Tryd.ntmps7
      go_wp2_with fail
      rw [← hw1]
      clear hw1
      go_still_tail 6, (by kernel_rfl)
      change wpList _ _ _ _ _ w1.drew
      clear q c b0 b1 b2 b3 b4
      obtain ⟨wd, hwd⟩ : ∃ wd, wd = w1.drew := ⟨_, rfl⟩
      have HGd := Lib.hid (show Blk wd w.heap.size 26 [.int .i64 3, .string t, .int .i64 n, .int .u32 (a : Int), .int .i64 b] by rw [hwd]; exact HG.out)
      rw [← hwd] at HA ⊢
      clear hwd HG
      go_wp2_with fail
      refine (HO.out 3 wd).mono ?_
      rintro e w2 ⟨rfl, hb2⟩
      have hG2 := HGd.out.kept hb2
      have HB2 := Lib.hid (HA.out.trans (hb2.mono HA.out.size))
      obtain ⟨⟨b0, b1, b2, b3, b4⟩, -⟩ := hG2.facts5
      have hgl := hG2.lt
      clear hb2 hG2 HGd HA HO
      go_wp2
      go_ret
      exact ⟨rfl, HB2.out⟩
    · obtain ⟨w1, hw1⟩ : ∃ w1, w1 = w.alloc (.cells #[.int .i64 5, .string t, .int .i64 n, .int .u32 (a : Int), .int .i64 b] 26) := ⟨_, rfl⟩
      have hA : Below w.heap.size w w1 := by rw [hw1]; exact (Below.refl _ _).alloc (Nat.le_refl _) _
      have c := (hT.2.below hA).at 5 (by decide) 11 0 rfl rfl
      have HA := Lib.hid hA.drew
      have HG := Lib.hid (show Blk w1 w.heap.size 26 [.int .i64 5, .string t, .int .i64 n, .int .u32 (a : Int), .int .i64 b] by rw [hw1]; exact Blk.new w _ _)
      obtain ⟨⟨b0, b1, b2, b3, b4⟩, -⟩ := HG.out.facts5
      have q : ∀ ad : Addr, ({ heap := w1.heap, tape := w1.tape, drawn := w1.drawn + 1, os := w1.os, output := w1.output } : World).cell? ad = w1.cell? ad := fun _ => rfl
      clear hT hA
      go_enter Tryd.func7, Tryd.ntmps7
      go_wp2_with fail
      rw [← hw1]
      clear hw1
      go_still_tail 6, (by kernel_rfl)
      change wpList _ _ _ _ _ w1.drew
      clear q c b0 b1 b2 b3 b4
      obtain ⟨wd, hwd⟩ : ∃ wd, wd = w1.drew := ⟨_, rfl⟩
      have HGd := Lib.hid (show Blk wd w.heap.size 26 [.int .i64 5, .string t, .int .i64 n, .int .u32 (a : Int), .int .i64 b] by rw [hwd]; exact HG.out)
      rw [← hwd] at HA ⊢
      clear hwd HG
      go_wp2_with fail
      refine (HO.out 5 wd).mono ?_
      rintro e w2 ⟨rfl, hb2⟩
      have hG2 := HGd.out.kept hb2
      have HB2 := Lib.hid (HA.out.trans (hb2.mono HA.out.size))
      obtain ⟨⟨b0, b1, b2, b3, b4⟩, -⟩ := hG2.facts5
      have hgl := hG2.lt
      clear hb2 hG2 HGd HA HO
      go_wp2
      go_ret
      exact ⟨rfl, HB2.out⟩
    · obtain ⟨w1, hw1⟩ : ∃ w1, w1 = w.alloc (.cells #[.int .i64 9, .string t, .int .i64 n, .int .u32 (a : Int), .int .i64 b] 26) := ⟨_, rfl⟩
      have hA : Below w.heap.size w w1 := by rw [hw1]; exact (Below.refl _ _).alloc (Nat.le_refl _) _
      have c := (hT.2.below hA).at 9 (by decide) 19 0 rfl rfl
      have HA := Lib.hid hA.drew
      have HG := Lib.hid (show Blk w1 w.heap.size 26 [.int .i64 9, .string t, .int .i64 n, .int .u32 (a : Int), .int .i64 b] by rw [hw1]; exact Blk.new w _ _)
      obtain ⟨⟨b0, b1, b2, b3, b4⟩, -⟩ := HG.out.facts5
      have q : ∀ ad : Addr, ({ heap := w1.heap, tape := w1.tape, drawn := w1.drawn + 1, os := w1.os, output := w1.output } : World).cell? ad = w1.cell? ad := fun _ => rfl
      clear hT hA
      go_enter Tryd.func7, Tryd.ntmps7
      go_wp2_with fail
      rw [← hw1]
      clear hw1
      go_still_tail 6, (by kernel_rfl)
      change wpList _ _ _ _ _ w1.drew
      clear q c b0 b1 b2 b3 b4
      obtain ⟨wd, hwd⟩ : ∃ wd, wd = w1.drew := ⟨_, rfl⟩
      have HGd := Lib.hid (show Blk wd w.heap.size 26 [.int .i64 9, .string t, .int .i64 n, .int .u32 (a : Int), .int .i64 b] by rw [hwd]; exact HG.out)
      rw [← hwd] at HA ⊢
      clear hwd HG
      go_wp2_with fail
      refine (HO.out 9 wd).mono ?_
      rintro e w2 ⟨rfl, hb2⟩
      have hG2 := HGd.out.kept hb2
      have HB2 := Lib.hid (HA.out.trans (hb2.mono HA.out.size))
      obtain ⟨⟨b0, b1, b2, b3, b4⟩, -⟩ := hG2.facts5
      have hgl := hG2.lt
      clear hb2 hG2 HGd HA HO
      go_wp2
      go_ret
      exact ⟨rfl, HB2.out⟩
set_option maxRecDepth 20000 in
set_option maxHeartbeats 8000000 in
/-- Kinds that have a number. -/
theorem check_num (k : Int) (hk : k = 2 ∨ k = 8) (t : ByteArray) (n : Int) (a : Nat) (b : Int) (w : World) (hT : BTabs w) :
    Calls Tryd.prog 7 #[setV ⟨k, t, n, a, b⟩] w fun e w' => e = .returned (.int .i64 ((if Bt.others t n a b 2 = true then 3 else if n < 0 ∨ 65535 < n then 4 else 0 : Nat) : Int)) ∧ Below w.heap.size w w' := by
  have HO := Lib.hid (fun k W => batch_hasOthers k t n a b 2 (by decide) W)
  have HF := Lib.hid (fun W => batch_checkNumber n 65535 W)
  generalize (if n < 0 ∨ 65535 < n then 4 else 0 : Nat) = z at *
  have hlt := hT.2.1
  have HT := Lib.hid hT
  unfold setV at HO ⊢
  generalize Bt.others t n a b 2 = r at *
  cases r with
  | true =>
    rw [if_pos rfl]
    rcases hk with rfl | rfl
    · obtain ⟨w1, hw1⟩ : ∃ w1, w1 = w.alloc (.cells #[.int .i64 2, .string t, .int .i64 n, .int .u32 (a : Int), .int .i64 b] 26) := ⟨_, rfl⟩
      have hA : Below w.heap.size w w1 := by rw [hw1]; exact (Below.refl _ _).alloc (Nat.le_refl _) _
      have c := (hT.2.below hA).at 2 (by decide) 5 2 rfl rfl
      have HA := Lib.hid hA.drew
      have HG := Lib.hid (show Blk w1 w.heap.size 26 [.int .i64 2, .string t, .int .i64 n, .int .u32 (a : Int), .int .i64 b] by rw [hw1]; exact Blk.new w _ _)
      obtain ⟨⟨b0, b1, b2, b3, b4⟩, -⟩ := HG.out.facts5
      have q : ∀ ad : Addr, ({ heap := w1.heap, tape := w1.tape, drawn := w1.drawn + 1, os := w1.os, output := w1.output } : World).cell? ad = w1.cell? ad := fun _ => rfl
      clear hT hA
      go_enter Tryd.func7, Tryd.ntmps7
      go_wp2_with fail
      rw [← hw1]
      clear hw1
      go_still_tail 6, (by kernel_rfl)
      change wpList _ _ _ _ _ w1.drew
      clear q c b0 b1 b2 b3 b4
      obtain ⟨wd, hwd⟩ : ∃ wd, wd = w1.drew := ⟨_, rfl⟩
      have HGd := Lib.hid (show Blk wd w.heap.size 26 [.int .i64 2, .string t, .int .i64 n, .int .u32 (a : Int), .int .i64 b] by rw [hwd]; exact HG.out)
      rw [← hwd] at HA ⊢
      clear hwd HG
      go_wp2_with fail
      refine (HO.out 2 wd).mono ?_
      rintro e w2 ⟨rfl, hb2⟩
      have hG2 := HGd.out.kept hb2
      have HB2 := Lib.hid (HA.out.trans (hb2.mono HA.out.size))
      obtain ⟨⟨b0, b1, b2, b3, b4⟩, -⟩ := hG2.facts5
      have hgl := hG2.lt
      clear hb2 hG2 HGd HA HO
      go_wp2
      go_ret
      exact ⟨rfl, HB2.out⟩
    · obtain ⟨w1, hw1⟩ : ∃ w1, w1 = w.alloc (.cells #[.int .i64 8, .string t, .int .i64 n, .int .u32 (a : Int), .int .i64 b] 26) := ⟨_, rfl⟩
      have hA : Below w.heap.size w w1 := by rw [hw1]; exact (Below.refl _ _).alloc (Nat.le_refl _) _
      have c := (hT.2.below hA).at 8 (by decide) 17 2 rfl rfl
      have HA := Lib.hid hA.drew
      have HG := Lib.hid (show Blk w1 w.heap.size 26 [.int .i64 8, .string t, .int .i64 n, .int .u32 (a : Int), .int .i64 b] by rw [hw1]; exact Blk.new w _ _)
      obtain ⟨⟨b0, b1, b2, b3, b4⟩, -⟩ := HG.out.facts5
      have q : ∀ ad : Addr, ({ heap := w1.heap, tape := w1.tape, drawn := w1.drawn + 1, os := w1.os, output := w1.output } : World).cell? ad = w1.cell? ad := fun _ => rfl
      clear hT hA
      go_enter Tryd.func7, Tryd.ntmps7
      go_wp2_with fail
      rw [← hw1]
      clear hw1
      go_still_tail 6, (by kernel_rfl)
      change wpList _ _ _ _ _ w1.drew
      clear q c b0 b1 b2 b3 b4
      obtain ⟨wd, hwd⟩ : ∃ wd, wd = w1.drew := ⟨_, rfl⟩
      have HGd := Lib.hid (show Blk wd w.heap.size 26 [.int .i64 8, .string t, .int .i64 n, .int .u32 (a : Int), .int .i64 b] by rw [hwd]; exact HG.out)
      rw [← hwd] at HA ⊢
      clear hwd HG
      go_wp2_with fail
      refine (HO.out 8 wd).mono ?_
      rintro e w2 ⟨rfl, hb2⟩
      have hG2 := HGd.out.kept hb2
      have HB2 := Lib.hid (HA.out.trans (hb2.mono HA.out.size))
      obtain ⟨⟨b0, b1, b2, b3, b4⟩, -⟩ := hG2.facts5
      have hgl := hG2.lt
      clear hb2 hG2 HGd HA HO
      go_wp2
      go_ret
      exact ⟨rfl, HB2.out⟩
  | false =>
    rw [if_neg (by decide)]
    rcases hk with rfl | rfl
    · obtain ⟨w1, hw1⟩ : ∃ w1, w1 = w.alloc (.cells #[.int .i64 2, .string t, .int .i64 n, .int .u32 (a : Int), .int .i64 b] 26) := ⟨_, rfl⟩
      have hA : Below w.heap.size w w1 := by rw [hw1]; exact (Below.refl _ _).alloc (Nat.le_refl _) _
      have c := (hT.2.below hA).at 2 (by decide) 5 2 rfl rfl
      have HA := Lib.hid hA.drew
      have HG := Lib.hid (show Blk w1 w.heap.size 26 [.int .i64 2, .string t, .int .i64 n, .int .u32 (a : Int), .int .i64 b] by rw [hw1]; exact Blk.new w _ _)
      obtain ⟨⟨b0, b1, b2, b3, b4⟩, -⟩ := HG.out.facts5
      have q : ∀ ad : Addr, ({ heap := w1.heap, tape := w1.tape, drawn := w1.drawn + 1, os := w1.os, output := w1.output } : World).cell? ad = w1.cell? ad := fun _ => rfl
      clear hT hA
      go_enter Tryd.func7, Tryd.ntmps7
      go_wp2_with fail
      rw [← hw1]
      clear hw1
      go_still_tail 6, (by kernel_rfl)
      change wpList _ _ _ _ _ w1.drew
      clear q c b0 b1 b2 b3 b4
      obtain ⟨wd, hwd⟩ : ∃ wd, wd = w1.drew := ⟨_, rfl⟩
      have HGd := Lib.hid (show Blk wd w.heap.size 26 [.int .i64 2, .string t, .int .i64 n, .int .u32 (a : Int), .int .i64 b] by rw [hwd]; exact HG.out)
      rw [← hwd] at HA ⊢
      clear hwd HG
      go_wp2_with fail
      refine (HO.out 2 wd).mono ?_
      rintro e w2 ⟨rfl, hb2⟩
      have hG2 := HGd.out.kept hb2
      have HB2 := Lib.hid (HA.out.trans (hb2.mono HA.out.size))
      obtain ⟨⟨b0, b1, b2, b3, b4⟩, -⟩ := hG2.facts5
      have hgl := hG2.lt
      clear hb2 hG2 HGd HA HO
      go_wp2_with fail
      refine (HF.out w2).mono ?_
      rintro e w3 ⟨rfl, hw3⟩
      subst hw3
      go_wp2
      go_ret
      exact ⟨rfl, HB2.out⟩
    · obtain ⟨w1, hw1⟩ : ∃ w1, w1 = w.alloc (.cells #[.int .i64 8, .string t, .int .i64 n, .int .u32 (a : Int), .int .i64 b] 26) := ⟨_, rfl⟩
      have hA : Below w.heap.size w w1 := by rw [hw1]; exact (Below.refl _ _).alloc (Nat.le_refl _) _
      have c := (hT.2.below hA).at 8 (by decide) 17 2 rfl rfl
      have HA := Lib.hid hA.drew
      have HG := Lib.hid (show Blk w1 w.heap.size 26 [.int .i64 8, .string t, .int .i64 n, .int .u32 (a : Int), .int .i64 b] by rw [hw1]; exact Blk.new w _ _)
      obtain ⟨⟨b0, b1, b2, b3, b4⟩, -⟩ := HG.out.facts5
      have q : ∀ ad : Addr, ({ heap := w1.heap, tape := w1.tape, drawn := w1.drawn + 1, os := w1.os, output := w1.output } : World).cell? ad = w1.cell? ad := fun _ => rfl
      clear hT hA
      go_enter Tryd.func7, Tryd.ntmps7
      go_wp2_with fail
      rw [← hw1]
      clear hw1
      go_still_tail 6, (by kernel_rfl)
      change wpList _ _ _ _ _ w1.drew
      clear q c b0 b1 b2 b3 b4
      obtain ⟨wd, hwd⟩ : ∃ wd, wd = w1.drew := ⟨_, rfl⟩
      have HGd := Lib.hid (show Blk wd w.heap.size 26 [.int .i64 8, .string t, .int .i64 n, .int .u32 (a : Int), .int .i64 b] by rw [hwd]; exact HG.out)
      rw [← hwd] at HA ⊢
      clear hwd HG
      go_wp2_with fail
      refine (HO.out 8 wd).mono ?_
      rintro e w2 ⟨rfl, hb2⟩
      have hG2 := HGd.out.kept hb2
      have HB2 := Lib.hid (HA.out.trans (hb2.mono HA.out.size))
      obtain ⟨⟨b0, b1, b2, b3, b4⟩, -⟩ := hG2.facts5
      have hgl := hG2.lt
      clear hb2 hG2 HGd HA HO
      go_wp2_with fail
      refine (HF.out w2).mono ?_
      rintro e w3 ⟨rfl, hw3⟩
      subst hw3
      go_wp2
      go_ret
      exact ⟨rfl, HB2.out⟩
set_option maxRecDepth 20000 in
set_option maxHeartbeats 8000000 in
/-- Kinds that have a key. -/
theorem check_key (k : Int) (hk : k = 1 ∨ k = 4) (t : ByteArray) (n : Int) (a : Nat) (b : Int) (w : World) (hs : t.size ≤ maxLen) (hT : BTabs w) :
    Calls Tryd.prog 7 #[setV ⟨k, t, n, a, b⟩] w fun e w' => e = .returned (.int .i64 ((if Bt.others t n a b 1 = true then 3 else Hx.checkErr t.data.toList : Nat) : Int)) ∧ Below w.heap.size w w' := by
  have HO := Lib.hid (fun k W => batch_hasOthers k t n a b 1 (by decide) W)
  have HF := Lib.hid (fun W => hex_Check t W hs)
  generalize Hx.checkErr t.data.toList = z at *
  clear hs
  have hlt := hT.2.1
  have HT := Lib.hid hT
  unfold setV at HO ⊢
  generalize Bt.others t n a b 1 = r at *
  cases r with
  | true =>
    rw [if_pos rfl]
    rcases hk with rfl | rfl
    · obtain ⟨w1, hw1⟩ : ∃ w1, w1 = w.alloc (.cells #[.int .i64 1, .string t, .int .i64 n, .int .u32 (a : Int), .int .i64 b] 26) := ⟨_, rfl⟩
      have hA : Below w.heap.size w w1 := by rw [hw1]; exact (Below.refl _ _).alloc (Nat.le_refl _) _
      have c := (hT.2.below hA).at 1 (by decide) 3 1 rfl rfl
      have HA := Lib.hid hA.drew
      have HG := Lib.hid (show Blk w1 w.heap.size 26 [.int .i64 1, .string t, .int .i64 n, .int .u32 (a : Int), .int .i64 b] by rw [hw1]; exact Blk.new w _ _)
      obtain ⟨⟨b0, b1, b2, b3, b4⟩, -⟩ := HG.out.facts5
      have q : ∀ ad : Addr, ({ heap := w1.heap, tape := w1.tape, drawn := w1.drawn + 1, os := w1.os, output := w1.output } : World).cell? ad = w1.cell? ad := fun _ => rfl
      clear hT hA
      go_enter Tryd.func7, Tryd.ntmps7
      go_wp2_with fail
      rw [← hw1]
      clear hw1
      go_still_tail 6, (by kernel_rfl)
      change wpList _ _ _ _ _ w1.drew
      clear q c b0 b1 b2 b3 b4
      obtain ⟨wd, hwd⟩ : ∃ wd, wd = w1.drew := ⟨_, rfl⟩
      have HGd := Lib.hid (show Blk wd w.heap.size 26 [.int .i64 1, .string t, .int .i64 n, .int .u32 (a : Int), .int .i64 b] by rw [hwd]; exact HG.out)
      rw [← hwd] at HA ⊢
      clear hwd HG
      go_wp2_with fail
      refine (HO.out 1 wd).mono ?_
      rintro e w2 ⟨rfl, hb2⟩
      have hG2 := HGd.out.kept hb2
      have HB2 := Lib.hid (HA.out.trans (hb2.mono HA.out.size))
      obtain ⟨⟨b0, b1, b2, b3, b4⟩, -⟩ := hG2.facts5
      have hgl := hG2.lt
      clear hb2 hG2 HGd HA HO
      go_wp2
      go_ret
      exact ⟨rfl, HB2.out⟩
    · obtain ⟨w1, hw1⟩ : ∃ w1, w1 = w.alloc (.cells #[.int .i64 4, .string t, .int .i64 n, .int .u32 (a : Int), .int .i64 b] 26) := ⟨_, rfl⟩
      have hA : Below w.heap.size w w1 := by rw [hw1]; exact (Below.refl _ _).alloc (Nat.le_refl _) _
      have c := (hT.2.below hA).at 4 (by decide) 9 1 rfl rfl
      have HA := Lib.hid hA.drew
      have HG := Lib.hid (show Blk w1 w.heap.size 26 [.int .i64 4, .string t, .int .i64 n, .int .u32 (a : Int), .int .i64 b] by rw [hw1]; exact Blk.new w _ _)
      obtain ⟨⟨b0, b1, b2, b3, b4⟩, -⟩ := HG.out.facts5
      have q : ∀ ad : Addr, ({ heap := w1.heap, tape := w1.tape, drawn := w1.drawn + 1, os := w1.os, output := w1.output } : World).cell? ad = w1.cell? ad := fun _ => rfl
      clear hT hA
      go_enter Tryd.func7, Tryd.ntmps7
      go_wp2_with fail
      rw [← hw1]
      clear hw1
      go_still_tail 6, (by kernel_rfl)
      change wpList _ _ _ _ _ w1.drew
      clear q c b0 b1 b2 b3 b4
      obtain ⟨wd, hwd⟩ : ∃ wd, wd = w1.drew := ⟨_, rfl⟩
      have HGd := Lib.hid (show Blk wd w.heap.size 26 [.int .i64 4, .string t, .int .i64 n, .int .u32 (a : Int), .int .i64 b] by rw [hwd]; exact HG.out)
      rw [← hwd] at HA ⊢
      clear hwd HG
      go_wp2_with fail
      refine (HO.out 4 wd).mono ?_
      rintro e w2 ⟨rfl, hb2⟩
      have hG2 := HGd.out.kept hb2
      have HB2 := Lib.hid (HA.out.trans (hb2.mono HA.out.size))
      obtain ⟨⟨b0, b1, b2, b3, b4⟩, -⟩ := hG2.facts5
      have hgl := hG2.lt
      clear hb2 hG2 HGd HA HO
      go_wp2
      go_ret
      exact ⟨rfl, HB2.out⟩
  | false =>
    rw [if_neg (by decide)]
    rcases hk with rfl | rfl
    · obtain ⟨w1, hw1⟩ : ∃ w1, w1 = w.alloc (.cells #[.int .i64 1, .string t, .int .i64 n, .int .u32 (a : Int), .int .i64 b] 26) := ⟨_, rfl⟩
      have hA : Below w.heap.size w w1 := by rw [hw1]; exact (Below.refl _ _).alloc (Nat.le_refl _) _
      have c := (hT.2.below hA).at 1 (by decide) 3 1 rfl rfl
      have HA := Lib.hid hA.drew
      have HG := Lib.hid (show Blk w1 w.heap.size 26 [.int .i64 1, .string t, .int .i64 n, .int .u32 (a : Int), .int .i64 b] by rw [hw1]; exact Blk.new w _ _)
      obtain ⟨⟨b0, b1, b2, b3, b4⟩, -⟩ := HG.out.facts5
      have q : ∀ ad : Addr, ({ heap := w1.heap, tape := w1.tape, drawn := w1.drawn + 1, os := w1.os, output := w1.output } : World).cell? ad = w1.cell? ad := fun _ => rfl
      clear hT hA
      go_enter Tryd.func7, Tryd.ntmps7
      go_wp2_with fail
      rw [← hw1]
      clear hw1
      go_still_tail 6, (by kernel_rfl)
      change wpList _ _ _ _ _ w1.drew
      clear q c b0 b1 b2 b3 b4
      obtain ⟨wd, hwd⟩ : ∃ wd, wd = w1.drew := ⟨_, rfl⟩
      have HGd := Lib.hid (show Blk wd w.heap.size 26 [.int .i64 1, .string t, .int .i64 n, .int .u32 (a : Int), .int .i64 b] by rw [hwd]; exact HG.out)
      rw [← hwd] at HA ⊢
      clear hwd HG
      go_wp2_with fail
      refine (HO.out 1 wd).mono ?_
      rintro e w2 ⟨rfl, hb2⟩
      have hG2 := HGd.out.kept hb2
      have HB2 := Lib.hid (HA.out.trans (hb2.mono HA.out.size))
      obtain ⟨⟨b0, b1, b2, b3, b4⟩, -⟩ := hG2.facts5
      have hgl := hG2.lt
      clear hb2 hG2 HGd HA HO
      go_wp2_with fail
      refine (HF.out w2).mono ?_
      rintro e w3 ⟨rfl, hw3⟩
      subst hw3
      go_wp2
      go_ret
      exact ⟨rfl, HB2.out⟩
    · obtain ⟨w1, hw1⟩ : ∃ w1, w1 = w.alloc (.cells #[.int .i64 4, .string t, .int .i64 n, .int .u32 (a : Int), .int .i64 b] 26) := ⟨_, rfl⟩
      have hA : Below w.heap.size w w1 := by rw [hw1]; exact (Below.refl _ _).alloc (Nat.le_refl _) _
      have c := (hT.2.below hA).at 4 (by decide) 9 1 rfl rfl
      have HA := Lib.hid hA.drew
      have HG := Lib.hid (show Blk w1 w.heap.size 26 [.int .i64 4, .string t, .int .i64 n, .int .u32 (a : Int), .int .i64 b] by rw [hw1]; exact Blk.new w _ _)
      obtain ⟨⟨b0, b1, b2, b3, b4⟩, -⟩ := HG.out.facts5
      have q : ∀ ad : Addr, ({ heap := w1.heap, tape := w1.tape, drawn := w1.drawn + 1, os := w1.os, output := w1.output } : World).cell? ad = w1.cell? ad := fun _ => rfl
      clear hT hA
      go_enter Tryd.func7, Tryd.ntmps7
      go_wp2_with fail
      rw [← hw1]
      clear hw1
      go_still_tail 6, (by kernel_rfl)
      change wpList _ _ _ _ _ w1.drew
      clear q c b0 b1 b2 b3 b4
      obtain ⟨wd, hwd⟩ : ∃ wd, wd = w1.drew := ⟨_, rfl⟩
      have HGd := Lib.hid (show Blk wd w.heap.size 26 [.int .i64 4, .string t, .int .i64 n, .int .u32 (a : Int), .int .i64 b] by rw [hwd]; exact HG.out)
      rw [← hwd] at HA ⊢
      clear hwd HG
      go_wp2_with fail
      refine (HO.out 4 wd).mono ?_
      rintro e w2 ⟨rfl, hb2⟩
      have hG2 := HGd.out.kept hb2
      have HB2 := Lib.hid (HA.out.trans (hb2.mono HA.out.size))
      obtain ⟨⟨b0, b1, b2, b3, b4⟩, -⟩ := hG2.facts5
      have hgl := hG2.lt
      clear hb2 hG2 HGd HA HO
      go_wp2_with fail
      refine (HF.out w2).mono ?_
      rintro e w3 ⟨rfl, hw3⟩
      subst hw3
      go_wp2
      go_ret
      exact ⟨rfl, HB2.out⟩
set_option maxRecDepth 20000 in
set_option maxHeartbeats 8000000 in
/-- The kind that has a key or none. -/
theorem check_shared (t : ByteArray) (n : Int) (a : Nat) (b : Int) (w : World) (hs : t.size ≤ maxLen) (hT : BTabs w) :
    Calls Tryd.prog 7 #[setV ⟨6, t, n, a, b⟩] w fun e w' => e = .returned (.int .i64 ((if Bt.others t n a b 1 = true then 3 else if t.size = 0 then 0 else if t = Bt.zeros then 3 else Hx.checkErr t.data.toList : Nat) : Int)) ∧ Below w.heap.size w w' := by
  have HO := Lib.hid (fun k W => batch_hasOthers k t n a b 1 (by decide) W)
  have HF := Lib.hid (fun W => batch_checkShared t W hs)
  generalize (if t.size = 0 then 0 else if t = Bt.zeros then 3 else Hx.checkErr t.data.toList : Nat) = z at *
  clear hs
  have hlt := hT.2.1
  have HT := Lib.hid hT
  unfold setV at HO ⊢
  generalize Bt.others t n a b 1 = r at *
  cases r with
  | true =>
    rw [if_pos rfl]
    obtain ⟨w1, hw1⟩ : ∃ w1, w1 = w.alloc (.cells #[.int .i64 6, .string t, .int .i64 n, .int .u32 (a : Int), .int .i64 b] 26) := ⟨_, rfl⟩
    have hA : Below w.heap.size w w1 := by rw [hw1]; exact (Below.refl _ _).alloc (Nat.le_refl _) _
    have c := (hT.2.below hA).at 6 (by decide) 13 1 rfl rfl
    have HA := Lib.hid hA.drew
    have HG := Lib.hid (show Blk w1 w.heap.size 26 [.int .i64 6, .string t, .int .i64 n, .int .u32 (a : Int), .int .i64 b] by rw [hw1]; exact Blk.new w _ _)
    obtain ⟨⟨b0, b1, b2, b3, b4⟩, -⟩ := HG.out.facts5
    have q : ∀ ad : Addr, ({ heap := w1.heap, tape := w1.tape, drawn := w1.drawn + 1, os := w1.os, output := w1.output } : World).cell? ad = w1.cell? ad := fun _ => rfl
    clear hT hA
    go_enter Tryd.func7, Tryd.ntmps7
    go_wp2_with fail
    rw [← hw1]
    clear hw1
    go_still_tail 6, (by kernel_rfl)
    change wpList _ _ _ _ _ w1.drew
    clear q c b0 b1 b2 b3 b4
    obtain ⟨wd, hwd⟩ : ∃ wd, wd = w1.drew := ⟨_, rfl⟩
    have HGd := Lib.hid (show Blk wd w.heap.size 26 [.int .i64 6, .string t, .int .i64 n, .int .u32 (a : Int), .int .i64 b] by rw [hwd]; exact HG.out)
    rw [← hwd] at HA ⊢
    clear hwd HG
    go_wp2_with fail
    refine (HO.out 6 wd).mono ?_
    rintro e w2 ⟨rfl, hb2⟩
    have hG2 := HGd.out.kept hb2
    have HB2 := Lib.hid (HA.out.trans (hb2.mono HA.out.size))
    obtain ⟨⟨b0, b1, b2, b3, b4⟩, -⟩ := hG2.facts5
    have hgl := hG2.lt
    clear hb2 hG2 HGd HA HO
    go_wp2
    go_ret
    exact ⟨rfl, HB2.out⟩
  | false =>
    rw [if_neg (by decide)]
    obtain ⟨w1, hw1⟩ : ∃ w1, w1 = w.alloc (.cells #[.int .i64 6, .string t, .int .i64 n, .int .u32 (a : Int), .int .i64 b] 26) := ⟨_, rfl⟩
    have hA : Below w.heap.size w w1 := by rw [hw1]; exact (Below.refl _ _).alloc (Nat.le_refl _) _
    have c := (hT.2.below hA).at 6 (by decide) 13 1 rfl rfl
    have HA := Lib.hid hA.drew
    have HG := Lib.hid (show Blk w1 w.heap.size 26 [.int .i64 6, .string t, .int .i64 n, .int .u32 (a : Int), .int .i64 b] by rw [hw1]; exact Blk.new w _ _)
    obtain ⟨⟨b0, b1, b2, b3, b4⟩, -⟩ := HG.out.facts5
    have q : ∀ ad : Addr, ({ heap := w1.heap, tape := w1.tape, drawn := w1.drawn + 1, os := w1.os, output := w1.output } : World).cell? ad = w1.cell? ad := fun _ => rfl
    clear hT hA
    go_enter Tryd.func7, Tryd.ntmps7
    go_wp2_with fail
    rw [← hw1]
    clear hw1
    go_still_tail 6, (by kernel_rfl)
    change wpList _ _ _ _ _ w1.drew
    clear q c b0 b1 b2 b3 b4
    obtain ⟨wd, hwd⟩ : ∃ wd, wd = w1.drew := ⟨_, rfl⟩
    have HGd := Lib.hid (show Blk wd w.heap.size 26 [.int .i64 6, .string t, .int .i64 n, .int .u32 (a : Int), .int .i64 b] by rw [hwd]; exact HG.out)
    rw [← hwd] at HA ⊢
    clear hwd HG
    go_wp2_with fail
    refine (HO.out 6 wd).mono ?_
    rintro e w2 ⟨rfl, hb2⟩
    have hG2 := HGd.out.kept hb2
    have HB2 := Lib.hid (HA.out.trans (hb2.mono HA.out.size))
    obtain ⟨⟨b0, b1, b2, b3, b4⟩, -⟩ := hG2.facts5
    have hgl := hG2.lt
    clear hb2 hG2 HGd HA HO
    go_wp2_with fail
    refine (HF.out w2).mono ?_
    rintro e w3 ⟨rfl, hw3⟩
    subst hw3
    go_wp2
    go_ret
    exact ⟨rfl, HB2.out⟩
set_option maxRecDepth 20000 in
set_option maxHeartbeats 8000000 in
/-- The kind that has an endpoint. -/
theorem check_end (t : ByteArray) (n : Int) (a : Nat) (b : Int) (w : World) (hs : t.size ≤ 1048576) (hT : BTabs w) :
    Calls Tryd.prog 7 #[setV ⟨7, t, n, a, b⟩] w fun e w' => e = .returned (.int .i64 ((if Bt.others t n a b 1 = true then 3 else Ad.endErr t.data.toList : Nat) : Int)) ∧ Below w.heap.size w w' := by
  have HO := Lib.hid (fun k W => batch_hasOthers k t n a b 1 (by decide) W)
  have HF := Lib.hid (fun W hW => addr_End t W hs (hT.1.below hW))
  generalize Ad.endErr t.data.toList = z at *
  generalize Ad.endAddr t.data.toList = z1 at *
  generalize Ad.endPort t.data.toList = z2 at *
  clear hs
  have hlt := hT.2.1
  have HT := Lib.hid hT
  unfold setV at HO ⊢
  generalize Bt.others t n a b 1 = r at *
  cases r with
  | true =>
    rw [if_pos rfl]
    obtain ⟨w1, hw1⟩ : ∃ w1, w1 = w.alloc (.cells #[.int .i64 7, .string t, .int .i64 n, .int .u32 (a : Int), .int .i64 b] 26) := ⟨_, rfl⟩
    have hA : Below w.heap.size w w1 := by rw [hw1]; exact (Below.refl _ _).alloc (Nat.le_refl _) _
    have c := (hT.2.below hA).at 7 (by decide) 15 1 rfl rfl
    have HA := Lib.hid hA.drew
    have HG := Lib.hid (show Blk w1 w.heap.size 26 [.int .i64 7, .string t, .int .i64 n, .int .u32 (a : Int), .int .i64 b] by rw [hw1]; exact Blk.new w _ _)
    obtain ⟨⟨b0, b1, b2, b3, b4⟩, -⟩ := HG.out.facts5
    have q : ∀ ad : Addr, ({ heap := w1.heap, tape := w1.tape, drawn := w1.drawn + 1, os := w1.os, output := w1.output } : World).cell? ad = w1.cell? ad := fun _ => rfl
    clear hT hA
    go_enter Tryd.func7, Tryd.ntmps7
    go_wp2_with fail
    rw [← hw1]
    clear hw1
    go_still_tail 6, (by kernel_rfl)
    change wpList _ _ _ _ _ w1.drew
    clear q c b0 b1 b2 b3 b4
    obtain ⟨wd, hwd⟩ : ∃ wd, wd = w1.drew := ⟨_, rfl⟩
    have HGd := Lib.hid (show Blk wd w.heap.size 26 [.int .i64 7, .string t, .int .i64 n, .int .u32 (a : Int), .int .i64 b] by rw [hwd]; exact HG.out)
    rw [← hwd] at HA ⊢
    clear hwd HG
    go_wp2_with fail
    refine (HO.out 7 wd).mono ?_
    rintro e w2 ⟨rfl, hb2⟩
    have hG2 := HGd.out.kept hb2
    have HB2 := Lib.hid (HA.out.trans (hb2.mono HA.out.size))
    obtain ⟨⟨b0, b1, b2, b3, b4⟩, -⟩ := hG2.facts5
    have hgl := hG2.lt
    clear hb2 hG2 HGd HA HO
    go_wp2
    go_ret
    exact ⟨rfl, HB2.out⟩
  | false =>
    rw [if_neg (by decide)]
    obtain ⟨w1, hw1⟩ : ∃ w1, w1 = w.alloc (.cells #[.int .i64 7, .string t, .int .i64 n, .int .u32 (a : Int), .int .i64 b] 26) := ⟨_, rfl⟩
    have hA : Below w.heap.size w w1 := by rw [hw1]; exact (Below.refl _ _).alloc (Nat.le_refl _) _
    have c := (hT.2.below hA).at 7 (by decide) 15 1 rfl rfl
    have HA := Lib.hid hA.drew
    have HG := Lib.hid (show Blk w1 w.heap.size 26 [.int .i64 7, .string t, .int .i64 n, .int .u32 (a : Int), .int .i64 b] by rw [hw1]; exact Blk.new w _ _)
    obtain ⟨⟨b0, b1, b2, b3, b4⟩, -⟩ := HG.out.facts5
    have q : ∀ ad : Addr, ({ heap := w1.heap, tape := w1.tape, drawn := w1.drawn + 1, os := w1.os, output := w1.output } : World).cell? ad = w1.cell? ad := fun _ => rfl
    clear hT hA
    go_enter Tryd.func7, Tryd.ntmps7
    go_wp2_with fail
    rw [← hw1]
    clear hw1
    go_still_tail 6, (by kernel_rfl)
    change wpList _ _ _ _ _ w1.drew
    clear q c b0 b1 b2 b3 b4
    obtain ⟨wd, hwd⟩ : ∃ wd, wd = w1.drew := ⟨_, rfl⟩
    have HGd := Lib.hid (show Blk wd w.heap.size 26 [.int .i64 7, .string t, .int .i64 n, .int .u32 (a : Int), .int .i64 b] by rw [hwd]; exact HG.out)
    rw [← hwd] at HA ⊢
    clear hwd HG
    go_wp2_with fail
    refine (HO.out 7 wd).mono ?_
    rintro e w2 ⟨rfl, hb2⟩
    have hG2 := HGd.out.kept hb2
    have HB2 := Lib.hid (HA.out.trans (hb2.mono HA.out.size))
    obtain ⟨⟨b0, b1, b2, b3, b4⟩, -⟩ := hG2.facts5
    have hgl := hG2.lt
    clear hb2 hG2 HGd HA HO
    go_wp2_with fail
    refine (HF.out w2 HB2.out).mono ?_
    rintro e w3 ⟨rfl, hb3⟩
    have hb := HB2.out.trans (hb3.mono HB2.out.size)
    clear hb3
    go_wp2
    go_ret
    exact ⟨rfl, hb⟩
set_option maxRecDepth 20000 in
set_option maxHeartbeats 8000000 in
/-- The kind that has a network. -/
theorem check_net (t : ByteArray) (n : Int) (a : Nat) (b : Int) (w : World) (ha : a < 4294967296) (hT : BTabs w) :
    Calls Tryd.prog 7 #[setV ⟨10, t, n, a, b⟩] w fun e w' => e = .returned (.int .i64 ((if Bt.others t n a b 3 = true then 3 else Nt.err a b : Nat) : Int)) ∧ Below w.heap.size w w' := by
  have HO := Lib.hid (fun k W => batch_hasOthers k t n a b 3 (by decide) W)
  have HF := Lib.hid (fun W => net_Check0 a b W ha)
  unfold netV at HF
  generalize Nt.err a b = z at *
  clear ha
  have hlt := hT.2.1
  have HT := Lib.hid hT
  unfold setV at HO ⊢
  generalize Bt.others t n a b 3 = r at *
  cases r with
  | true =>
    rw [if_pos rfl]
    obtain ⟨w1, hw1⟩ : ∃ w1, w1 = w.alloc (.cells #[.int .i64 10, .string t, .int .i64 n, .int .u32 (a : Int), .int .i64 b] 26) := ⟨_, rfl⟩
    have hA : Below w.heap.size w w1 := by rw [hw1]; exact (Below.refl _ _).alloc (Nat.le_refl _) _
    have c := (hT.2.below hA).at 10 (by decide) 21 3 rfl rfl
    have HA := Lib.hid hA.drew
    have HG := Lib.hid (show Blk w1 w.heap.size 26 [.int .i64 10, .string t, .int .i64 n, .int .u32 (a : Int), .int .i64 b] by rw [hw1]; exact Blk.new w _ _)
    obtain ⟨⟨b0, b1, b2, b3, b4⟩, -⟩ := HG.out.facts5
    have q : ∀ ad : Addr, ({ heap := w1.heap, tape := w1.tape, drawn := w1.drawn + 1, os := w1.os, output := w1.output } : World).cell? ad = w1.cell? ad := fun _ => rfl
    clear hT hA
    go_enter Tryd.func7, Tryd.ntmps7
    go_wp2_with fail
    rw [← hw1]
    clear hw1
    go_still_tail 6, (by kernel_rfl)
    change wpList _ _ _ _ _ w1.drew
    clear q c b0 b1 b2 b3 b4
    obtain ⟨wd, hwd⟩ : ∃ wd, wd = w1.drew := ⟨_, rfl⟩
    have HGd := Lib.hid (show Blk wd w.heap.size 26 [.int .i64 10, .string t, .int .i64 n, .int .u32 (a : Int), .int .i64 b] by rw [hwd]; exact HG.out)
    rw [← hwd] at HA ⊢
    clear hwd HG
    go_wp2_with fail
    refine (HO.out 10 wd).mono ?_
    rintro e w2 ⟨rfl, hb2⟩
    have hG2 := HGd.out.kept hb2
    have HB2 := Lib.hid (HA.out.trans (hb2.mono HA.out.size))
    obtain ⟨⟨b0, b1, b2, b3, b4⟩, -⟩ := hG2.facts5
    have hgl := hG2.lt
    clear hb2 hG2 HGd HA HO
    go_wp2
    go_ret
    exact ⟨rfl, HB2.out⟩
  | false =>
    rw [if_neg (by decide)]
    obtain ⟨w1, hw1⟩ : ∃ w1, w1 = w.alloc (.cells #[.int .i64 10, .string t, .int .i64 n, .int .u32 (a : Int), .int .i64 b] 26) := ⟨_, rfl⟩
    have hA : Below w.heap.size w w1 := by rw [hw1]; exact (Below.refl _ _).alloc (Nat.le_refl _) _
    have c := (hT.2.below hA).at 10 (by decide) 21 3 rfl rfl
    have HA := Lib.hid hA.drew
    have HG := Lib.hid (show Blk w1 w.heap.size 26 [.int .i64 10, .string t, .int .i64 n, .int .u32 (a : Int), .int .i64 b] by rw [hw1]; exact Blk.new w _ _)
    obtain ⟨⟨b0, b1, b2, b3, b4⟩, -⟩ := HG.out.facts5
    have q : ∀ ad : Addr, ({ heap := w1.heap, tape := w1.tape, drawn := w1.drawn + 1, os := w1.os, output := w1.output } : World).cell? ad = w1.cell? ad := fun _ => rfl
    clear hT hA
    go_enter Tryd.func7, Tryd.ntmps7
    go_wp2_with fail
    rw [← hw1]
    clear hw1
    go_still_tail 6, (by kernel_rfl)
    change wpList _ _ _ _ _ w1.drew
    clear q c b0 b1 b2 b3 b4
    obtain ⟨wd, hwd⟩ : ∃ wd, wd = w1.drew := ⟨_, rfl⟩
    have HGd := Lib.hid (show Blk wd w.heap.size 26 [.int .i64 10, .string t, .int .i64 n, .int .u32 (a : Int), .int .i64 b] by rw [hwd]; exact HG.out)
    rw [← hwd] at HA ⊢
    clear hwd HG
    go_wp2_with fail
    refine (HO.out 10 wd).mono ?_
    rintro e w2 ⟨rfl, hb2⟩
    have hG2 := HGd.out.kept hb2
    have HB2 := Lib.hid (HA.out.trans (hb2.mono HA.out.size))
    obtain ⟨⟨b0, b1, b2, b3, b4⟩, -⟩ := hG2.facts5
    have hgl := hG2.lt
    clear hb2 hG2 HGd HA HO
    go_wp2_with fail
    refine (HF.out w2).mono ?_
    rintro e w3 ⟨rfl, hb3⟩
    have hb := HB2.out.trans (hb3.mono HB2.out.size)
    clear hb3
    go_wp2
    go_ret
    exact ⟨rfl, hb⟩
/-- What is wrong with a setting. -/
theorem batch_Check (s : Bt.S) (w : World) (hs : s.t.size ≤ 1048576) (ha : s.a < 4294967296) (hT : BTabs w) :
    Calls Tryd.prog 7 #[setV s] w fun e w' => e = .returned (.int .i64 (Bt.err s : Int)) ∧ Below w.heap.size w w' := by
  by_cases hk : s.k < 1 ∨ 10 < s.k
  · have Hr := Lib.hid (show Bt.err s = 2 by unfold Bt.err; rw [if_pos hk])
    obtain ⟨k, t, n, a, b⟩ := s
    have HB : Hid (∀ o, Below w.heap.size w (w.alloc o)) := Lib.hid fun o => (Below.refl _ _).alloc (Nat.le_refl _) _
    unfold setV
    simp only at hk ⊢
    rcases hk with h | h
    · have d1 : decide (k < 1) = true := decide_eq_true h
      go_enter Tryd.func7, Tryd.ntmps7
      go_wp2
      go_ret
      exact ⟨by rw [Hr.out]; rfl, HB.out _⟩
    · have d1 : decide (k < 1) = false := decide_eq_false (by omega)
      have d2 : decide (11 ≤ k) = true := decide_eq_true (by omega)
      go_enter Tryd.func7, Tryd.ntmps7
      go_wp2
      go_ret
      exact ⟨by rw [Hr.out]; rfl, HB.out _⟩
  have h1 : 1 ≤ s.k := by omega
  have h2 : s.k ≤ 10 := by omega
  have hml : s.t.size ≤ maxLen := by unfold maxLen; omega
  have he : Bt.err s = (if Bt.others s.t s.n s.a s.b (Bt.fld s.k) = true then 3 else if Bt.fld s.k = 2 then (if s.n < 0 ∨ 65535 < s.n then 4 else 0) else if Bt.fld s.k = 3 then Nt.err s.a s.b else
    if s.k = 7 then Ad.endErr s.t.data.toList else if s.k = 6 ∧ s.t.size = 0 then 0 else if s.k = 6 ∧ s.t = Bt.zeros then 3 else if Bt.fld s.k = 1 then Hx.checkErr s.t.data.toList else 0) := by
    unfold Bt.err
    rw [if_neg (by omega), Bt.more_others]
  rw [he]
  clear he
  obtain ⟨k, t, n, a, b⟩ := s
  simp only at h1 h2 hs ha hml ⊢
  rcases Bt.fld_cases k h1 h2 with rfl | rfl | rfl | rfl | rfl | rfl | rfl | rfl | rfl | rfl
  · exact check_key 1 (by omega) t n a b w hml hT
  · exact check_num 2 (by omega) t n a b w hT
  · exact check_none 3 (by omega) t n a b w hT
  · exact check_key 4 (by omega) t n a b w hml hT
  · exact check_none 5 (by omega) t n a b w hT
  · have := check_shared t n a b w hml hT
    rw [show Bt.fld 6 = 1 from rfl]
    simpa using this
  · exact check_end t n a b w hs hT
  · exact check_num 8 (by omega) t n a b w hT
  · exact check_none 9 (by omega) t n a b w hT
  · exact check_net t n a b w ha hT
end Go.Proofs.YthlagpmacnijfaaDoor

namespace Go.Proofs.YthlagpmacnijfaaDoor

theorem listed_all {listed : Array Bool} {n : Nat} (hs : listed.size = n) (hc : listed.toList.count false = 0) : ∀ j, j < n → listed.getD j false = true := by
  intro j hj
  have hlt : j < listed.size := by omega
  cases hx : listed[j]
  · exfalso
    have hm : false ∈ listed.toList := by rw [← hx]; simp
    exact (List.count_eq_zero.1 hc) hm
  · simp [hlt, hx]
theorem getD_false {listed : Array Bool} {i : Nat} (h : listed.getD i true = false) : listed.getD i false = false := by
  by_cases hlt : i < listed.size
  · simpa [hlt] using h
  · simp [hlt] at h
end Go.Proofs.YthlagpmacnijfaaDoor

namespace Go.Proofs.YthlagpmacnijfaaDoor

section
variable {P : Program} {md : Region.Mode} {ops : Array Oper} {Q : Exit → Act → World → Prop}
theorem ready_none {listed : Array Bool} (hs : listed.size = ops.size) (h : listed.toList.count false = 0) : Region.ready md ops listed = [] := by
  apply List.eq_nil_iff_forall_not_mem.2
  intro j hj
  obtain ⟨h0, o, ho, _⟩ := mem_ready.1 hj
  have hlt : j < listed.size := by rw [hs]; exact (Array.getElem?_eq_some_iff.1 ho).1
  have hf : listed[j] = false := by simpa [hlt] using h0
  have hm : false ∈ listed.toList := by rw [← hf]; simp
  have := List.count_pos_iff.2 hm
  omega
theorem wpAny_inv (I : Array Bool → Act → World → Prop) (hsz : ∀ listed a w, I listed a w → listed.size = ops.size)
    (hstep : ∀ listed a w, I listed a w → ∀ i ∈ Region.ready md ops listed, wpOp P ops Q i (fun a' w' => I (listed.setIfInBounds i true) a' w') a w)
    (hdone : ∀ listed a w, I listed a w → Region.ready md ops listed = [] → Q .normal a w) :
    ∀ (fuel : Nat) (listed : Array Bool) (a : Act) (w : World), I listed a w → listed.toList.count false ≤ fuel → wpAny P md ops Q fuel listed a w := by
  intro fuel
  induction fuel with
  | zero =>
    intro listed a w hI hc
    have hr := ready_none (md := md) (ops := ops) (hsz _ _ _ hI) (by omega)
    exact ⟨hr, hdone _ _ _ hI hr⟩
  | succ fuel ih =>
    intro listed a w hI hc
    refine ⟨hdone _ _ _ hI, fun i hi => wpOp_mono (fun a' w' hI' => ih _ _ _ hI' ?_) (hstep _ _ _ hI i hi)⟩
    obtain ⟨h0, o, ho, _⟩ := mem_ready.1 hi
    have hlt : i < listed.size := by rw [hsz _ _ _ hI]; exact (Array.getElem?_eq_some_iff.1 ho).1
    have hf : listed[i] = false := by simpa [hlt] using h0
    have hl : i < listed.toList.length := by simpa using hlt
    have hf' : listed.toList[i] = false := by simpa using hf
    have hm : false ∈ listed.toList := by rw [← hf]; simp
    have hp := List.count_pos_iff.2 hm
    have hcs := List.count_set (a := true) (b := false) (l := listed.toList) (i := i) (h := hl)
    rw [hf'] at hcs
    rw [Array.toList_setIfInBounds, hcs]
    simp only [beq_self_eq_true, if_true, show (true == false) = false from rfl, Bool.false_eq_true, if_false]
    omega
theorem all_listed (hlow : ∀ (i : Nat) (o : Oper), ops[i]? = some o → ∀ e ∈ o.after, e.on < i) {listed : Array Bool} (hs : listed.size = ops.size) (hr : Region.ready md ops listed = []) : listed.toList.count false = 0 := by
  have hall : ∀ j (h : j < listed.size), listed[j] = true := by
    intro j
    induction j using Nat.strongRecOn with
    | _ j ih =>
      intro h
      cases hj : listed[j]
      · exfalso
        have ho : ops[j]? = some ops[j] := Array.getElem?_eq_getElem (by omega)
        have : j ∈ Region.ready md ops listed := mem_ready.2 ⟨by simp [h, hj], ops[j], ho, fun e he _ => by
          have hl := hlow j _ ho e he
          have hlt : e.on < listed.size := by omega
          have := ih e.on hl hlt
          simp [hlt, this]⟩
        rw [hr] at this
        cases this
      · rfl
  apply List.count_eq_zero.2
  intro hm
  obtain ⟨j, hj, he⟩ := List.mem_iff_getElem.1 hm
  have := hall j (by simpa using hj)
  simp at he
  rw [he] at this
  cases this
/-- A region by an invariant. -/
theorem wp_region_inv (I : Array Bool → Act → World → Prop) {id : Nat} {a : Act} {w : World} (hm : P.follows .mixedOrders = true) (hsz : ∀ listed a w, I listed a w → listed.size = ops.size)
    (hI : I (Array.replicate ops.size false) a { w with drawn := w.drawn + 1 })
    (hstep : ∀ listed a w, I listed a w → ∀ (i : Nat) (o : Oper), ops[i]? = some o → listed.getD i true = false → (∀ e ∈ o.after, Region.binds .any e = true → listed.getD e.on false = true) → wpOp P ops Q i (fun a' w' => I (listed.setIfInBounds i true) a' w') a w)
    (hdone : ∀ listed a w, I listed a w → listed.toList.count false = 0 → Q .normal a w) (hlow : ∀ (i : Nat) (o : Oper), ops[i]? = some o → ∀ e ∈ o.after, e.on < i) :
    (Code.region id ops true).wp P Q a w := by
  refine wp_region_any hm (wpAny_inv I hsz (fun listed a w h i hi => ?_) (fun listed a w h hr => hdone listed a w h (all_listed hlow (hsz _ _ _ h) hr)) _ _ _ _ hI (by simp))
  obtain ⟨h0, o, ho, hall⟩ := mem_ready.1 hi
  exact hstep listed a w h i o ho h0 hall
theorem wpOp_plain {i : Nat} {o : Oper} {K : Act → World → Prop} {a : Act} {w : World} (hi : ops[i]? = some o) (hg : o.guard = none) (h : o.wp P a w K Q) : wpOp P ops Q i K a w := by
  unfold wpOp
  simp only [hi]
  rw [if_pos (by simp [Region.wanted, hg])]
  exact .inl h
end
end Go.Proofs.YthlagpmacnijfaaDoor

namespace Go.Proofs.YthlagpmacnijfaaDoor

/-- The frame where just the marked ones of the first k operations have come up. -/
def detAct (dst : Nat → Option Nat) (F : Nat → Value) (a0 : Act) (listed : Array Bool) : Nat → Act
  | 0 => a0
  | k + 1 => if listed.getD k false = true then (detAct dst F a0 listed k).put (dst k) (F k) else detAct dst F a0 listed k
/-- The frame where all of the first k operations have come up. -/
def putAll (dst : Nat → Option Nat) (F : Nat → Value) (a0 : Act) : Nat → Act
  | 0 => a0
  | k + 1 => (putAll dst F a0 k).put (dst k) (F k)
theorem putAll_some {dst : Nat → Option Nat} {F : Nat → Value} {a0 : Act} (n k d : Nat) (v : Value) (hn : n = k + 1) (hd : dst k = some d) (hF : F k = v) : putAll dst F a0 n = (putAll dst F a0 k).put (some d) v := by
  rw [hn, putAll, hd, hF]
theorem putAll_none {dst : Nat → Option Nat} {F : Nat → Value} {a0 : Act} (n k : Nat) (hn : n = k + 1) (hd : dst k = none) : putAll dst F a0 n = putAll dst F a0 k := by
  rw [hn, putAll, hd]
  rfl
theorem det_all (dst : Nat → Option Nat) (F : Nat → Value) (a0 : Act) (n : Nat) : ∀ k, k ≤ n → detAct dst F a0 (Array.replicate n true) k = putAll dst F a0 k
  | 0, _ => rfl
  | k + 1, h => by
    have hk : k < n := by omega
    rw [detAct, if_pos (by simp [hk]), det_all dst F a0 n k (by omega)]
    rfl
theorem put_comm (a : Act) (d e : Option Nat) (v u : Value) (h : d = none ∨ d ≠ e) : (a.put d v).put e u = (a.put e u).put d v := by
  cases d with
  | none => rfl
  | some d =>
    cases e with
    | none => rfl
    | some e =>
      have hne : d ≠ e := fun x => by rcases h with h | h; cases h; exact h (by rw [x])
      unfold Act.put
      simp only
      congr 1
      exact Array.setIfInBounds_comm v u hne
theorem mark_other {l : Array Bool} {i j : Nat} (h : i ≠ j) : (l.setIfInBounds i true).getD j false = l.getD j false := by simp [Array.getElem?_setIfInBounds_ne h]
theorem mark_same {l : Array Bool} {i : Nat} (h : i < l.size) : (l.setIfInBounds i true).getD i false = true := by simp [h]
section
variable {dst : Nat → Option Nat} {F : Nat → Value} {a0 : Act}
theorem det_below {listed : Array Bool} {i : Nat} : ∀ k, k ≤ i → detAct dst F a0 (listed.setIfInBounds i true) k = detAct dst F a0 listed k
  | 0, _ => rfl
  | k + 1, h => by
    unfold detAct
    rw [det_below k (by omega), mark_other (by omega)]
theorem det_set {listed : Array Bool} {i : Nat} (hi : i < listed.size) (h0 : listed.getD i false = false) : ∀ n, i < n → (∀ j, i < j → j < n → dst i = none ∨ dst i ≠ dst j) → detAct dst F a0 (listed.setIfInBounds i true) n = (detAct dst F a0 listed n).put (dst i) (F i)
  | 0, h, _ => by omega
  | k + 1, h, hd => by
    by_cases hk : k = i
    · subst hk
      rw [detAct, mark_same hi, if_pos rfl, det_below k (Nat.le_refl _)]
      conv => rhs; rw [detAct, h0, if_neg (by decide)]
    · have ih := det_set hi h0 k (by omega) (fun j h1 h2 => hd j h1 (by omega))
      rw [detAct, mark_other (by omega), ih]
      conv => rhs; rw [detAct]
      by_cases hl : listed.getD k false = true
      · rw [if_pos hl, if_pos hl]
        exact put_comm _ _ _ _ _ (hd k (by omega) (by omega))
      · rw [if_neg hl, if_neg hl]
theorem det_size {listed : Array Bool} : ∀ n, (detAct dst F a0 listed n).tmps.size = a0.tmps.size
  | 0 => rfl
  | k + 1 => by
    unfold detAct
    split
    · cases h : dst k with
      | none => exact det_size k
      | some d => simp [Act.put, det_size k]
    · exact det_size k
/-- What a slot holds that none of the operations writes. -/
theorem det_old {listed : Array Bool} {d : Nat} : ∀ n, (∀ j, j < n → dst j ≠ some d) → (detAct dst F a0 listed n).tmps.getD d undef = a0.tmps.getD d undef
  | 0, _ => rfl
  | k + 1, h => by
    have ih := det_old (listed := listed) k (fun j hj => h j (by omega))
    unfold detAct
    split
    · cases hk : dst k with
      | none => exact ih
      | some e =>
        have hne : e ≠ d := fun x => h k (by omega) (by rw [hk, x])
        rw [← ih]
        simp [Act.put, Array.getElem?_setIfInBounds_ne hne]
    · exact ih
/-- What an operation that has come up has left in its slot. -/
theorem det_get {listed : Array Bool} {i d : Nat} (hl : listed.getD i false = true) (hdi : dst i = some d) (hs : d < a0.tmps.size) : ∀ n, i < n → (∀ j, i < j → j < n → dst i = none ∨ dst i ≠ dst j) → (detAct dst F a0 listed n).tmps.getD d undef = F i
  | 0, h, _ => by omega
  | k + 1, h, hd => by
    by_cases hk : k = i
    · subst hk
      have hz : d < (detAct dst F a0 listed k).tmps.size := by rw [det_size]; exact hs
      rw [detAct, if_pos hl, hdi]
      simp [Act.put, hz]
    · have ih := det_get hl hdi hs k (by omega) (fun j h1 h2 => hd j h1 (by omega))
      unfold detAct
      split
      · cases hx : dst k with
        | none => exact ih
        | some e =>
          have hne : e ≠ d := fun x => by
            rcases hd k (by omega) (by omega) with h' | h'
            · rw [hdi] at h'; cases h'
            · exact h' (by rw [hdi, hx, x])
          rw [← ih]
          simp [Act.put, Array.getElem?_setIfInBounds_ne hne]
      · exact ih
end
section
variable {P : Program} {ops : Array Oper} {Q : Exit → Act → World → Prop}
/-- A region whose operations' values (F) and world (Wf) do not hang on their order. -/
theorem wp_region_det (n : Nat) (dst : Nat → Option Nat) (F : Nat → Value) (Wf : Array Bool → World) {id : Nat} {a0 : Act} {w : World} (hm : P.follows .mixedOrders = true) (hn : ops.size = n)
    (hdist : ∀ i j, i < j → j < n → dst i = none ∨ dst i ≠ dst j) (hlow : ∀ (i : Nat) (o : Oper), ops[i]? = some o → ∀ e ∈ o.after, e.on < i)
    (hW0 : Wf (Array.replicate n false) = { w with drawn := w.drawn + 1 })
    (hstep : ∀ listed : Array Bool, listed.size = n → (∀ (i : Nat) (o : Oper), ops[i]? = some o → listed.getD i false = true → ∀ e ∈ o.after, Region.binds .any e = true → listed.getD e.on false = true) → ∀ (i : Nat) (o : Oper), ops[i]? = some o → listed.getD i false = false → (∀ e ∈ o.after, Region.binds .any e = true → listed.getD e.on false = true) →
      wpOp P ops Q i (fun a' w' => a' = (detAct dst F a0 listed n).put (dst i) (F i) ∧ w' = Wf (listed.setIfInBounds i true)) (detAct dst F a0 listed n) (Wf listed))
    (hdone : Q .normal (detAct dst F a0 (Array.replicate n true) n) (Wf (Array.replicate n true))) : (Code.region id ops true).wp P Q a0 w := by
  have hzero : detAct dst F a0 (Array.replicate n false) n = a0 := by
    have : ∀ k, detAct dst F a0 (Array.replicate n false) k = a0 := by
      intro k
      induction k with
      | zero => rfl
      | succ k ih =>
        unfold detAct
        rw [if_neg, ih]
        by_cases hk : k < n <;> simp [hk]
    exact this n
  refine wp_region_inv (fun listed a w' => listed.size = n ∧ (∀ (i : Nat) (o : Oper), ops[i]? = some o → listed.getD i false = true → ∀ e ∈ o.after, Region.binds .any e = true → listed.getD e.on false = true) ∧ a = detAct dst F a0 listed n ∧ w' = Wf listed) hm (fun _ _ _ h => by rw [hn]; exact h.1) ?_ ?_ ?_ hlow
  · rw [hn]
    refine ⟨by simp, fun i o ho hl => ?_, hzero.symm, hW0.symm⟩
    exfalso
    by_cases hk : i < n <;> simp [hk] at hl
  · rintro listed a w' ⟨hs, hcl, rfl, rfl⟩ i o ho h0 hdep
    have h00 := getD_false h0
    have hi : i < n := by rw [← hn]; exact (Array.getElem?_eq_some_iff.1 ho).1
    refine wpOp_mono (fun a' w'' h => ?_) (hstep listed hs hcl i o ho h00 hdep)
    refine ⟨by simpa using hs, fun j p hp hlj e he hb => ?_, by rw [h.1, det_set (by omega) h00 n hi (fun j h1 h2 => hdist i j h1 h2)], h.2⟩
    by_cases hei : i = e.on
    · rw [← hei]; exact mark_same (by omega)
    · rw [mark_other hei]
      by_cases hij : i = j
      · subst hij
        rw [ho] at hp
        obtain rfl := Option.some.inj hp
        exact hdep e he hb
      · rw [mark_other hij] at hlj
        exact hcl j p hp hlj e he hb
  · rintro listed a w' ⟨hs, _, rfl, rfl⟩ hc
    have hall := listed_all hs hc
    have e : listed = Array.replicate n true := by
      apply Array.ext
      · simp [hs]
      · intro j h1 h2
        have := hall j (by omega)
        simpa [h1] using this
    rw [e]
    exact hdone
/-- The same; the frame in a step is a letter of which the operations' slots are known. -/
theorem wp_region_frames (n : Nat) (dst : Nat → Option Nat) (F : Nat → Value) (Wf : Array Bool → World) {id : Nat} {a0 : Act} {w : World} (hm : P.follows .mixedOrders = true) (hn : ops.size = n)
    (hdist : ∀ i j, i < j → j < n → dst i = none ∨ dst i ≠ dst j) (hlow : ∀ (i : Nat) (o : Oper), ops[i]? = some o → ∀ e ∈ o.after, e.on < i) (hin : ∀ i d, i < n → dst i = some d → d < a0.tmps.size)
    (hW0 : Wf (Array.replicate n false) = { w with drawn := w.drawn + 1 })
    (hstep : ∀ listed : Array Bool, listed.size = n → (∀ (i : Nat) (o : Oper), ops[i]? = some o → listed.getD i false = true → ∀ e ∈ o.after, Region.binds .any e = true → listed.getD e.on false = true) →
      ∀ A : Act, (∀ i d, i < n → listed.getD i false = true → dst i = some d → A.tmps.getD d undef = F i) → (∀ d, (∀ j, j < n → dst j ≠ some d) → A.tmps.getD d undef = a0.tmps.getD d undef) →
      ∀ (i : Nat) (o : Oper), ops[i]? = some o → listed.getD i false = false → (∀ e ∈ o.after, Region.binds .any e = true → listed.getD e.on false = true) →
      wpOp P ops Q i (fun a' w' => a' = A.put (dst i) (F i) ∧ w' = Wf (listed.setIfInBounds i true)) A (Wf listed))
    (hdone : Q .normal (putAll dst F a0 n) (Wf (Array.replicate n true))) : (Code.region id ops true).wp P Q a0 w := by
  refine wp_region_det n dst F Wf hm hn hdist hlow hW0 (fun listed hs hcl i o ho h0 hdep => ?_) (by rw [det_all dst F a0 n n (Nat.le_refl n)]; exact hdone)
  exact hstep listed hs hcl _ (fun i d hi hl hd => det_get hl hd (hin i d hi hd) n hi (fun j h1 h2 => hdist i j h1 h2)) (fun d hd => det_old n hd) i o ho h0 hdep
end
end Go.Proofs.YthlagpmacnijfaaDoor

namespace Go.Proofs.YthlagpmacnijfaaDoor
open Go.RowKit

section
variable {dst : Nat → Option Nat} {a0 : Act}
theorem det_congr {F G : Nat → Value} {listed : Array Bool} : ∀ n, (∀ j, j < n → listed.getD j false = true → F j = G j) → detAct dst F a0 listed n = detAct dst G a0 listed n
  | 0, _ => rfl
  | k + 1, h => by
    have ih := det_congr (F := F) (G := G) (listed := listed) k (fun j hj => h j (by omega))
    unfold detAct
    by_cases hl : listed.getD k false = true
    · rw [if_pos hl, if_pos hl, ih, h k (by omega) hl]
    · rw [if_neg hl, if_neg hl, ih]
/-- What a slot holds that none of the operations that have come up writes. -/
theorem det_still {F : Nat → Value} {listed : Array Bool} {d : Nat} : ∀ n, (∀ j, j < n → dst j = some d → listed.getD j false = false) → (detAct dst F a0 listed n).tmps.getD d undef = a0.tmps.getD d undef
  | 0, _ => rfl
  | k + 1, h => by
    have ih := det_still (F := F) (listed := listed) k (fun j hj => h j (by omega))
    unfold detAct
    by_cases hl : listed.getD k false = true
    · rw [if_pos hl]
      cases hk : dst k with
      | none => exact ih
      | some e =>
        have hne : e ≠ d := fun x => by
          have := h k (by omega) (by rw [hk, x])
          rw [hl] at this
          cases this
        rw [← ih]
        simp [Act.put, Array.getElem?_setIfInBounds_ne hne]
    · rw [if_neg hl]
      exact ih
end
section
variable {P : Program} {ops : Array Oper} {Q : Exit → Act → World → Prop}
theorem wp_region_vals (n m : Nat) (dst : Nat → Option Nat) (R : Bool → Nat → Value → World → Prop) (S : Bool → World → Prop) {id : Nat} {a0 : Act} {w : World} (hm : P.follows .mixedOrders = true) (hn : ops.size = n)
    (hdist : ∀ i j, i < j → j < n → dst i = none ∨ dst i ≠ dst j) (hlow : ∀ (i : Nat) (o : Oper), ops[i]? = some o → ∀ e ∈ o.after, e.on < i) (hin : ∀ i d, i < n → dst i = some d → d < a0.tmps.size)
    (hstab : ∀ b j u W W', Below W.heap.size W W' → R b j u W → R b j u W')
    (hdrop : ∀ j u W, j < m → R true j u W)
    (hlate : ∀ (j : Nat) (o : Oper), m < j → ops[j]? = some o → ∃ e ∈ o.after, Region.binds .any e = true ∧ e.on = m)
    (hS : S false { w with drawn := w.drawn + 1 })
    (hstep : ∀ (listed : Array Bool) (W : World), listed.size = n → (∀ (i : Nat) (o : Oper), ops[i]? = some o → listed.getD i false = true → ∀ e ∈ o.after, Region.binds .any e = true → listed.getD e.on false = true) → S (listed.getD m false) W →
      ∀ (A : Act) (F : Nat → Value), (∀ i d, i < n → listed.getD i false = true → dst i = some d → A.tmps.getD d undef = F i) → (∀ i, i < n → listed.getD i false = true → R (listed.getD m false) i (F i) W) →
      (∀ d, (∀ j, j < n → dst j = some d → listed.getD j false = false) → A.tmps.getD d undef = a0.tmps.getD d undef) →
      ∀ (i : Nat) (o : Oper), ops[i]? = some o → listed.getD i false = false → (∀ e ∈ o.after, Region.binds .any e = true → listed.getD e.on false = true) →
      wpOp P ops Q i (fun a' w' => ∃ v, a' = A.put (dst i) v ∧ ((i ≠ m ∧ S (listed.getD m false) w' ∧ R (listed.getD m false) i v w' ∧ Below W.heap.size W w') ∨ (i = m ∧ S true w' ∧ R true i v w'))) A W)
    (hdone : ∀ (F : Nat → Value) (W : World), S ((Array.replicate n true).getD m false) W → (∀ i, i < n → R ((Array.replicate n true).getD m false) i (F i) W) → Q .normal (putAll dst F a0 n) W) : (Code.region id ops true).wp P Q a0 w := by
  have hzero : ∀ F, detAct dst F a0 (Array.replicate n false) n = a0 := by
    intro F
    have : ∀ k, detAct dst F a0 (Array.replicate n false) k = a0 := by
      intro k
      induction k with
      | zero => rfl
      | succ k ih =>
        unfold detAct
        rw [if_neg, ih]
        by_cases hk : k < n <;> simp [hk]
    exact this n
  refine wp_region_inv (fun listed a w' => listed.size = n ∧ (∀ (i : Nat) (o : Oper), ops[i]? = some o → listed.getD i false = true → ∀ e ∈ o.after, Region.binds .any e = true → listed.getD e.on false = true) ∧ ∃ F, a = detAct dst F a0 listed n ∧ S (listed.getD m false) w' ∧ ∀ i, i < n → listed.getD i false = true → R (listed.getD m false) i (F i) w') hm (fun _ _ _ h => by rw [hn]; exact h.1) ?_ ?_ ?_ hlow
  · rw [hn]
    refine ⟨by simp, fun i o ho hl => ?_, fun _ => undef, (hzero _).symm, ?_, fun i hi hl => ?_⟩
    · exfalso
      by_cases hk : i < n <;> simp [hk] at hl
    · rw [show (Array.replicate n false).getD m false = false by by_cases hk : m < n <;> simp [hk]]
      exact hS
    · exfalso
      simp [hi] at hl
  · rintro listed a w' ⟨hs, hcl, F, rfl, hSw, hR⟩ i o ho h0 hdep
    have h00 := getD_false h0
    have hi : i < n := by rw [← hn]; exact (Array.getElem?_eq_some_iff.1 ho).1
    refine wpOp_mono (fun a' w'' h => ?_) (hstep listed w' hs hcl hSw _ F (fun i d hi hl hd => det_get hl hd (hin i d hi hd) n hi (fun j h1 h2 => hdist i j h1 h2)) hR (fun d hd => det_still n hd) i o ho h00 hdep)
    obtain ⟨v, ha, hv⟩ := h
    refine ⟨by simpa using hs, fun j p hp hlj e he hb => ?_, fun j => if j = i then v else F j, ?_, ?_, fun j hj hlj => ?_⟩
    · by_cases hei : i = e.on
      · rw [← hei]; exact mark_same (by omega)
      · rw [mark_other hei]
        by_cases hij : i = j
        · subst hij
          rw [ho] at hp
          obtain rfl := Option.some.inj hp
          exact hdep e he hb
        · rw [mark_other hij] at hlj
          exact hcl j p hp hlj e he hb
    · rw [det_set (by omega) h00 n hi (fun j h1 h2 => hdist i j h1 h2), if_pos rfl, ha]
      congr 1
      refine det_congr n fun j hj hlj => ?_
      rw [if_neg]
      intro e
      rw [e, h00] at hlj
      cases hlj
    · rcases hv with ⟨hne, hs', _⟩ | ⟨he, hs', _⟩
      · rw [mark_other hne]; exact hs'
      · subst he
        rw [mark_same (by omega)]; exact hs'
    · show R _ j (if j = i then v else F j) w''
      by_cases hji : j = i
      · subst hji
        rw [if_pos rfl]
        rcases hv with ⟨hne, _, hr, _⟩ | ⟨he, _, hr⟩
        · rw [mark_other hne]; exact hr
        · subst he
          rw [mark_same (by omega)]; exact hr
      · rw [if_neg hji]
        rw [mark_other (fun e => hji e.symm)] at hlj
        rcases hv with ⟨hne, _, _, hb⟩ | ⟨he, _⟩
        · rw [mark_other hne]
          exact hstab _ _ _ _ _ hb (hR j hj hlj)
        · subst he
          rw [mark_same (by omega)]
          by_cases hjm : j < i
          · exact hdrop j _ _ hjm
          · exfalso
            have hop : ops[j]? = some ops[j] := Array.getElem?_eq_getElem (by omega)
            obtain ⟨e, he, hb, hon⟩ := hlate j _ (by omega) hop
            have := hcl j _ hop hlj e he hb
            rw [hon, h00] at this
            cases this
  · rintro listed a w' ⟨hs, _, F, rfl, hSw, hR⟩ hc
    have hall := listed_all hs hc
    have e : listed = Array.replicate n true := by
      apply Array.ext
      · simp [hs]
      · intro j h1 h2
        have := hall j (by omega)
        simpa [h1] using this
    subst e
    rw [det_all dst F a0 n n (Nat.le_refl n)]
    exact hdone F w' hSw fun i hi => hR i hi (hall i hi)
end
end Go.Proofs.YthlagpmacnijfaaDoor

namespace Go.Proofs.YthlagpmacnijfaaDoor
open Go.RowKit

theorem set_beside (w : World) (xs ys : List Value) (t u : TypeId) : Below w.heap.size w ((w.alloc (.cells xs.toArray t)).alloc (.cells ys.toArray u)) ∧ Blk ((w.alloc (.cells xs.toArray t)).alloc (.cells ys.toArray u)) w.heap.size t xs ∧ Blk ((w.alloc (.cells xs.toArray t)).alloc (.cells ys.toArray u)) (w.heap.size + 1) u ys := by
  refine ⟨((Below.refl _ _).alloc (Nat.le_refl _) _).alloc (by simp) _, (Blk.new w t xs).kept ((Below.refl _ _).alloc (Nat.le_refl _) _), ?_⟩
  have := Blk.new (w.alloc (.cells xs.toArray t)) u ys
  rwa [show (w.alloc (.cells xs.toArray t)).heap.size = w.heap.size + 1 by simp] at this
theorem err_net_bits {s : Bt.S} (h : Bt.err s = 0) : -9223372036854775808 ≤ s.b ∧ s.b ≤ 9223372036854775807 := by
  obtain ⟨h1, h2⟩ := Bt.err_in h
  obtain ⟨-, -, h3⟩ := Bt.more_of h2
  rcases h3 with ⟨-, h3⟩ | h3
  · omega
  · have := (Bt.err_rest h).2.1 h3
    unfold Nt.err at this
    split at this <;> first | omega | cases this
def lineVal (G k : Nat) (st : ByteArray) (sn : Int) (sa : Nat) (sb : Int) (X V : ByteArray) (j : Nat) : Value :=
  match j with
  | 0 => .pointer (some ⟨G, 0, none⟩)
  | 1 => .int .i64 (k : Int)
  | 2 => .pointer (some ⟨0, k * 2, none⟩)
  | 3 => .pointer (some ⟨0, k * 2, none⟩)
  | 4 => .string X
  | 5 => .agg #[.int .i64 (k : Int), .string st, .int .i64 sn, .int .u32 (sa : Int), .int .i64 sb]
  | 6 => .string V
  | 7 => .agg #[.string X, .string V]
  | _ => .int .i64 0
def lineDst (i : Nat) : Option Nat := ([some 11, some 12, some 13, some 14, some 15, some 16, some 17, some 18, none, some 3] : List (Option Nat)).getD i none
theorem line_dist (i j : Nat) (h : i < j) (hj : j < 10) : lineDst i = none ∨ lineDst i ≠ lineDst j := (by decide : ∀ j, j < 10 → ∀ i, i < j → (lineDst i = none ∨ lineDst i ≠ lineDst j)) j hj i h
theorem line_in (i d : Nat) (hi : i < 10) (hd : lineDst i = some d) : (d = 3 ∨ 11 ≤ d) ∧ d ≤ 18 := by
  have h := (by decide : ∀ i, i < 10 → ((lineDst i).getD 3 = 3 ∨ 11 ≤ (lineDst i).getD 3) ∧ (lineDst i).getD 0 ≤ 18) i hi
  rw [hd] at h
  exact h
theorem line_put (F : Nat → Value) (a0 : Act) : putAll lineDst F a0 10 = (((((((((a0.put (some 11) (F 0)).put (some 12) (F 1)).put (some 13) (F 2)).put (some 14) (F 3)).put (some 15) (F 4)).put (some 16) (F 5)).put (some 17) (F 6)).put (some 18) (F 7)).put (some 3) (F 9)) := by
  rw [putAll_some 10 9 3 _ rfl rfl rfl, putAll_none 9 8 rfl rfl, putAll_some 8 7 18 _ rfl rfl rfl, putAll_some 7 6 17 _ rfl rfl rfl, putAll_some 6 5 16 _ rfl rfl rfl, putAll_some 5 4 15 _ rfl rfl rfl, putAll_some 4 3 14 _ rfl rfl rfl, putAll_some 3 2 13 _ rfl rfl rfl, putAll_some 2 1 12 _ rfl rfl rfl, putAll_some 1 0 11 _ rfl rfl rfl]
  rfl
set_option maxRecDepth 20000 in
set_option maxHeartbeats 8000000 in
theorem batch_Line (s : Bt.S) (w : World) (hs : s.t.size ≤ 1048576) (ha : s.a < 4294967296) (hn0 : -9223372036854775808 ≤ s.n) (hn1 : s.n ≤ 9223372036854775807) (hT : BTabs w) :
    Calls Tryd.prog 8 #[setV s] w fun e w' => e = .returned (.tuple #[lineV (Bt.line s), .int .i64 (Bt.err s : Int)]) ∧ Below w.heap.size w w' := by
  have hS := set_beside w (Bt.setC s) (Ln.lineC Bt.noLine) 26 30
  obtain ⟨w1, hw1⟩ : ∃ w1, w1 = (w.alloc (.cells (Bt.setC s).toArray 26)).alloc (.cells (Ln.lineC Bt.noLine).toArray 30) := ⟨_, rfl⟩
  rw [← hw1] at hS
  obtain ⟨hA, hG, hR⟩ := hS
  have HA := Lib.hid hA
  have HG := Lib.hid hG
  have HR := Lib.hid hR
  have HC := Lib.hid (fun W hW => batch_Check s W hs ha (hT.below hW))
  have HT := Lib.hid hT
  have hgl := hG.lt
  have hrl := hR.lt
  clear hT
  by_cases he : Bt.err s = 0
  · obtain ⟨hb0, hb1⟩ := err_net_bits he
    obtain ⟨⟨h1, h2⟩, -⟩ := Bt.err_in he
    have HW := Lib.hid (fun W hW => batch_write s W h1 h2 ha hn0 hn1 hb0 hb1 (HT.out.below hW))
    have hl : Bt.line s = ⟨Bt.nameOf s.k.toNat, Bt.val s⟩ := by unfold Bt.line; rw [if_pos he]; rfl
    obtain ⟨k, hk⟩ : ∃ k : Nat, s.k = (k : Int) := ⟨s.k.toNat, by omega⟩
    have hk11 : k < 11 := by omega
    rw [hl]
    rw [he] at HC ⊢
    rw [hk, Int.toNat_natCast]
    clear hl he hs ha hn0 hn1 hb0 hb1 h1 h2
    obtain ⟨sk, st, sn, sa, sb⟩ := s
    simp only at hk
    subst hk
    have hw1' : w1 = (w.alloc (.cells #[.int .i64 k, .string st, .int .i64 sn, .int .u32 (sa : Int), .int .i64 sb] 26)).alloc (.cells #[.string ⟨#[]⟩, .string ⟨#[]⟩] 30) := hw1
    have HN : Hid (∀ W, Below w.heap.size w W → W.cell? ⟨0, k * 2, none⟩ = some (.string (Bt.nameOf k))) := Lib.hid fun W hW => ((HT.out.2.below hW).2 k hk11).1
    generalize Bt.val ⟨(k : Int), st, sn, sa, sb⟩ = V at *
    generalize Bt.nameOf k = X at *
    obtain ⟨⟨g0, g1, g2, g3, g4⟩, -⟩ := hG.facts5
    have i0 : (0 : Int) ≤ (k : Int) := by omega
    have i1 : (k : Int) < 11 := by omega
    unfold setV at HC HW ⊢
    unfold lineV
    clear hA hG hR hw1
    go_enter Tryd.func8, Tryd.ntmps8
    go_upto_region 1 with fail
    rw [← hw1']
    clear hw1'
    go_wp2_with fail
    refine (HC.out w1 HA.out).mono ?_
    rintro e w2 ⟨rfl, hb2⟩
    have hG2 := HG.out.kept hb2
    have hR2 := HR.out.kept hb2
    have HG2 := Lib.hid hG2
    have HR2 := Lib.hid hR2
    have HA2 := Lib.hid (HA.out.trans (hb2.mono HA.out.size))
    have hlt0 := HT.out.2.1
    have HB2 := HA2
    clear g0 g1 g2 g3 g4 hG2 hR2 hb2 HC
    go_upto_region 4 with fail
    have hmix : Tryd.prog.follows .mixedOrders = true := by kernel_rfl
    refine wp_region_vals 10 8 lineDst (fun b' j v W => (b' = true ∧ j < 8) ∨ j = 8 ∨ v = lineVal w.heap.size k st sn sa sb X V j) (fun b' W => Below w.heap.size w W ∧ (b' = false → Below w2.heap.size w2 W) ∧ (b' = true → Blk W (w.heap.size + 1) 30 [.string X, .string V])) hmix rfl line_dist ?low ?inn ?stab ?drop ?late ?s0 ?step ?done
    case low =>
      intro i o ho
      have hi : i < 10 := by
        have := (Array.getElem?_eq_some_iff.1 ho).1
        simpa using this
      have hc : i = 0 ∨ i = 1 ∨ i = 2 ∨ i = 3 ∨ i = 4 ∨ i = 5 ∨ i = 6 ∨ i = 7 ∨ i = 8 ∨ i = 9 := by omega
      rcases hc with rfl | rfl | rfl | rfl | rfl | rfl | rfl | rfl | rfl | rfl <;> (obtain rfl := Option.some.inj ho; simp)
    case inn =>
      intro i d hi hd
      have hle := (line_in i d hi hd).2
      exact Nat.lt_of_le_of_lt hle (of_decide_eq_true rfl)
    case stab => exact fun b' j u W W' hb h => h
    case drop => exact fun j u W hj => .inl ⟨rfl, hj⟩
    case late =>
      intro j o hj ho
      have hi : j < 10 := by
        have := (Array.getElem?_eq_some_iff.1 ho).1
        simpa using this
      obtain rfl : j = 9 := by omega
      obtain rfl := Option.some.inj ho
      exact ⟨⟨8, .chain⟩, by simp, rfl, rfl⟩
    case s0 => exact ⟨HA2.out.drew, fun _ => (Below.refl _ _).drew, fun h => by cases h⟩
    case done =>
      intro F W hS hR
      have h9 : F 9 = .int .i64 0 := by
        rcases hR 9 (by decide) with ⟨_, h⟩ | h | h
        · omega
        · omega
        · exact h
      have HE := Lib.hid (hS.2.2 rfl)
      have HBf := Lib.hid hS.1
      rw [line_put, h9]
      simp only [Act.put, List.setIfInBounds_toArray, List.set_cons_succ, List.set_cons_zero]
      clear hR hS h9
      go_wp2
      exact bodyPost_ret (ret_cell (load_line HE.out rfl) Tryd.results8 rfl rfl) rfl ⟨rfl, HBf.out⟩
    case step =>
      intro listed W hs' hcl hSW A0 F hget hR hold i o ho h0 hdep
      have hi : i < 10 := by
        have := (Array.getElem?_eq_some_iff.1 ho).1
        simpa using this
      have hc : i = 0 ∨ i = 1 ∨ i = 2 ∨ i = 3 ∨ i = 4 ∨ i = 5 ∨ i = 6 ∨ i = 7 ∨ i = 8 ∨ i = 9 := by omega
      have nm : i < 9 → listed.getD 8 false = false := by
        intro hi8
        cases hx : listed.getD 8 false with
        | false => rfl
        | true =>
          exfalso
          have l7 := hcl 8 _ rfl hx ⟨7, .data⟩ (by simp) rfl
          have l6 := hcl 7 _ rfl l7 ⟨6, .data⟩ (by simp) rfl
          have l4 := hcl 7 _ rfl l7 ⟨4, .data⟩ (by simp) rfl
          have l5 := hcl 6 _ rfl l6 ⟨5, .data⟩ (by simp) rfl
          have l3 := hcl 4 _ rfl l4 ⟨3, .data⟩ (by simp) rfl
          have l2 := hcl 3 _ rfl l3 ⟨2, .data⟩ (by simp) rfl
          have l1 := hcl 2 _ rfl l2 ⟨1, .data⟩ (by simp) rfl
          have l0 := hcl 1 _ rfl l1 ⟨0, .data⟩ (by simp) rfl
          rcases hc with rfl | rfl | rfl | rfl | rfl | rfl | rfl | rfl | rfl | rfl <;> first | omega | (simp_all)
      have Hsp := Lib.hid (show ∀ j, j < 8 → i < 9 → listed.getD j false = true → F j = lineVal w.heap.size k st sn sa sb X V j by
        intro j hj hi8 hlj
        rcases hR j (by omega) hlj with ⟨hx, _⟩ | h | h
        · rw [nm hi8] at hx; cases hx
        · omega
        · exact h)
      have Hget := Lib.hid hget
      have Hold := Lib.hid hold
      have HS := Lib.hid hSW
      have Nm := Lib.hid nm
      clear hget hcl hold hSW hR nm
      rcases hc with rfl | rfl | rfl | rfl | rfl | rfl | rfl | rfl | rfl | rfl
      · obtain rfl := Option.some.inj ho
        have e1 : A0.tmps.getD 1 undef = .pointer (some ⟨w.heap.size, 0, none⟩) := (Hold.out 1 (fun j hj hd => by have := (line_in j 1 hj hd).1; omega)).trans rfl
        refine wpOp_mono (fun a' w' (h : ∃ v, a' = A0.put (some 11) v ∧ Hid (v = lineVal w.heap.size k st sn sa sb X V 0) ∧ Hid (Below W.heap.size W w')) => by obtain ⟨v, h1, h2, h3⟩ := h; exact ⟨v, h1, .inl ⟨by decide, ⟨HS.out.1.trans (h3.out.mono HS.out.1.size), fun hx => (HS.out.2.1 hx).trans (h3.out.mono (HS.out.2.1 hx).size), fun hx => absurd (Nm.out (by decide)) (by rw [hx]; decide)⟩, .inr (.inr h2.out), h3.out⟩⟩) ?_
        refine wpOp_plain rfl rfl ?_
        clear hdep h0
        unfold Oper.wp
        go_simp
        exact ⟨_, rfl, Lib.hid rfl, Lib.hid (Below.refl _ _)⟩
      · obtain rfl := Option.some.inj ho
        have v0 : A0.tmps.getD 11 undef = .pointer (some ⟨w.heap.size, 0, none⟩) := (Hget.out 0 11 (by decide) (hdep ⟨0, .data⟩ (by simp) rfl) rfl).trans (Hsp.out 0 (by decide) (by decide) (hdep ⟨0, .data⟩ (by simp) rfl))
        have HGW := Lib.hid (HG2.out.kept (HS.out.2.1 (Nm.out (by decide))))
        have y0 := HGW.out.cell 0 rfl
        refine wpOp_mono (fun a' w' (h : ∃ v, a' = A0.put (some 12) v ∧ Hid (v = lineVal w.heap.size k st sn sa sb X V 1) ∧ Hid (Below W.heap.size W w')) => by obtain ⟨v, h1, h2, h3⟩ := h; exact ⟨v, h1, .inl ⟨by decide, ⟨HS.out.1.trans (h3.out.mono HS.out.1.size), fun hx => (HS.out.2.1 hx).trans (h3.out.mono (HS.out.2.1 hx).size), fun hx => absurd (Nm.out (by decide)) (by rw [hx]; decide)⟩, .inr (.inr h2.out), h3.out⟩⟩) ?_
        refine wpOp_plain rfl rfl ?_
        clear hdep h0
        unfold Oper.wp
        go_simp
        exact ⟨_, rfl, Lib.hid rfl, Lib.hid (Below.refl _ _)⟩
      · obtain rfl := Option.some.inj ho
        have v1 : A0.tmps.getD 12 undef = .int .i64 (k : Int) := (Hget.out 1 12 (by decide) (hdep ⟨1, .data⟩ (by simp) rfl) rfl).trans (Hsp.out 1 (by decide) (by decide) (hdep ⟨1, .data⟩ (by simp) rfl))
        refine wpOp_mono (fun a' w' (h : ∃ v, a' = A0.put (some 13) v ∧ Hid (v = lineVal w.heap.size k st sn sa sb X V 2) ∧ Hid (Below W.heap.size W w')) => by obtain ⟨v, h1, h2, h3⟩ := h; exact ⟨v, h1, .inl ⟨by decide, ⟨HS.out.1.trans (h3.out.mono HS.out.1.size), fun hx => (HS.out.2.1 hx).trans (h3.out.mono (HS.out.2.1 hx).size), fun hx => absurd (Nm.out (by decide)) (by rw [hx]; decide)⟩, .inr (.inr h2.out), h3.out⟩⟩) ?_
        refine wpOp_plain rfl rfl ?_
        clear hdep h0
        unfold Oper.wp
        go_simp
        exact ⟨_, rfl, Lib.hid rfl, Lib.hid (Below.refl _ _)⟩
      · obtain rfl := Option.some.inj ho
        have v2 : A0.tmps.getD 13 undef = .pointer (some ⟨0, k * 2, none⟩) := (Hget.out 2 13 (by decide) (hdep ⟨2, .data⟩ (by simp) rfl) rfl).trans (Hsp.out 2 (by decide) (by decide) (hdep ⟨2, .data⟩ (by simp) rfl))
        refine wpOp_mono (fun a' w' (h : ∃ v, a' = A0.put (some 14) v ∧ Hid (v = lineVal w.heap.size k st sn sa sb X V 3) ∧ Hid (Below W.heap.size W w')) => by obtain ⟨v, h1, h2, h3⟩ := h; exact ⟨v, h1, .inl ⟨by decide, ⟨HS.out.1.trans (h3.out.mono HS.out.1.size), fun hx => (HS.out.2.1 hx).trans (h3.out.mono (HS.out.2.1 hx).size), fun hx => absurd (Nm.out (by decide)) (by rw [hx]; decide)⟩, .inr (.inr h2.out), h3.out⟩⟩) ?_
        refine wpOp_plain rfl rfl ?_
        clear hdep h0
        unfold Oper.wp
        go_simp
        exact ⟨_, rfl, Lib.hid rfl, Lib.hid (Below.refl _ _)⟩
      · obtain rfl := Option.some.inj ho
        have v3 : A0.tmps.getD 14 undef = .pointer (some ⟨0, k * 2, none⟩) := (Hget.out 3 14 (by decide) (hdep ⟨3, .data⟩ (by simp) rfl) rfl).trans (Hsp.out 3 (by decide) (by decide) (hdep ⟨3, .data⟩ (by simp) rfl))
        have y0 := HN.out W HS.out.1
        refine wpOp_mono (fun a' w' (h : ∃ v, a' = A0.put (some 15) v ∧ Hid (v = lineVal w.heap.size k st sn sa sb X V 4) ∧ Hid (Below W.heap.size W w')) => by obtain ⟨v, h1, h2, h3⟩ := h; exact ⟨v, h1, .inl ⟨by decide, ⟨HS.out.1.trans (h3.out.mono HS.out.1.size), fun hx => (HS.out.2.1 hx).trans (h3.out.mono (HS.out.2.1 hx).size), fun hx => absurd (Nm.out (by decide)) (by rw [hx]; decide)⟩, .inr (.inr h2.out), h3.out⟩⟩) ?_
        refine wpOp_plain rfl rfl ?_
        clear hdep h0
        unfold Oper.wp
        go_simp
        exact ⟨_, rfl, Lib.hid rfl, Lib.hid (Below.refl _ _)⟩
      · obtain rfl := Option.some.inj ho
        have e1 : A0.tmps.getD 1 undef = .pointer (some ⟨w.heap.size, 0, none⟩) := (Hold.out 1 (fun j hj hd => by have := (line_in j 1 hj hd).1; omega)).trans rfl
        have HGW := Lib.hid (HG2.out.kept (HS.out.2.1 (Nm.out (by decide))))
        obtain ⟨y0, y1, y2, y3, y4⟩ := HGW.out.facts5.1
        refine wpOp_mono (fun a' w' (h : ∃ v, a' = A0.put (some 16) v ∧ Hid (v = lineVal w.heap.size k st sn sa sb X V 5) ∧ Hid (Below W.heap.size W w')) => by obtain ⟨v, h1, h2, h3⟩ := h; exact ⟨v, h1, .inl ⟨by decide, ⟨HS.out.1.trans (h3.out.mono HS.out.1.size), fun hx => (HS.out.2.1 hx).trans (h3.out.mono (HS.out.2.1 hx).size), fun hx => absurd (Nm.out (by decide)) (by rw [hx]; decide)⟩, .inr (.inr h2.out), h3.out⟩⟩) ?_
        refine wpOp_plain rfl rfl ?_
        clear hdep h0
        unfold Oper.wp
        go_simp
        exact ⟨_, rfl, Lib.hid rfl, Lib.hid (Below.refl _ _)⟩
      · obtain rfl := Option.some.inj ho
        have v5 : A0.tmps.getD 16 undef = .agg #[.int .i64 (k : Int), .string st, .int .i64 sn, .int .u32 (sa : Int), .int .i64 sb] := (Hget.out 5 16 (by decide) (hdep ⟨5, .data⟩ (by simp) rfl) rfl).trans (Hsp.out 5 (by decide) (by decide) (hdep ⟨5, .data⟩ (by simp) rfl))
        have v5' : A0.tmps[16]?.getD undef = .agg #[.int .i64 (k : Int), .string st, .int .i64 sn, .int .u32 (sa : Int), .int .i64 sb] := by simpa using v5
        refine wpOp_mono (fun a' w' (h : ∃ v, a' = A0.put (some 17) v ∧ Hid (v = lineVal w.heap.size k st sn sa sb X V 6) ∧ Hid (Below W.heap.size W w')) => by obtain ⟨v, h1, h2, h3⟩ := h; exact ⟨v, h1, .inl ⟨by decide, ⟨HS.out.1.trans (h3.out.mono HS.out.1.size), fun hx => (HS.out.2.1 hx).trans (h3.out.mono (HS.out.2.1 hx).size), fun hx => absurd (Nm.out (by decide)) (by rw [hx]; decide)⟩, .inr (.inr h2.out), h3.out⟩⟩) ?_
        refine wpOp_plain rfl rfl ?_
        clear hdep h0
        unfold Oper.wp
        go_simp
        refine (HW.out W HS.out.1).mono ?_
        rintro e W' ⟨rfl, hb⟩
        exact ⟨_, rfl, Lib.hid rfl, Lib.hid hb⟩
      · obtain rfl := Option.some.inj ho
        have v4 : A0.tmps.getD 15 undef = .string X := (Hget.out 4 15 (by decide) (hdep ⟨4, .data⟩ (by simp) rfl) rfl).trans (Hsp.out 4 (by decide) (by decide) (hdep ⟨4, .data⟩ (by simp) rfl))
        have v6 : A0.tmps.getD 17 undef = .string V := (Hget.out 6 17 (by decide) (hdep ⟨6, .data⟩ (by simp) rfl) rfl).trans (Hsp.out 6 (by decide) (by decide) (hdep ⟨6, .data⟩ (by simp) rfl))
        have v4' : A0.tmps[15]?.getD undef = .string X := by simpa using v4
        have v6' : A0.tmps[17]?.getD undef = .string V := by simpa using v6
        refine wpOp_mono (fun a' w' (h : ∃ v, a' = A0.put (some 18) v ∧ Hid (v = lineVal w.heap.size k st sn sa sb X V 7) ∧ Hid (Below W.heap.size W w')) => by obtain ⟨v, h1, h2, h3⟩ := h; exact ⟨v, h1, .inl ⟨by decide, ⟨HS.out.1.trans (h3.out.mono HS.out.1.size), fun hx => (HS.out.2.1 hx).trans (h3.out.mono (HS.out.2.1 hx).size), fun hx => absurd (Nm.out (by decide)) (by rw [hx]; decide)⟩, .inr (.inr h2.out), h3.out⟩⟩) ?_
        refine wpOp_plain rfl rfl ?_
        clear hdep h0
        unfold Oper.wp
        go_simp
        exact ⟨_, rfl, Lib.hid rfl, Lib.hid (Below.refl _ _)⟩
      · obtain rfl := Option.some.inj ho
        have v7 : A0.tmps.getD 18 undef = .agg #[.string X, .string V] := (Hget.out 7 18 (by decide) (hdep ⟨7, .data⟩ (by simp) rfl) rfl).trans (Hsp.out 7 (by decide) (by decide) (hdep ⟨7, .data⟩ (by simp) rfl))
        have v7' : A0.tmps[18]?.getD undef = .agg #[.string X, .string V] := by simpa using v7
        have e2 : A0.tmps.getD 2 undef = .pointer (some ⟨w.heap.size + 1, 0, none⟩) := (Hold.out 2 (fun j hj hd => by have := (line_in j 2 hj hd).1; omega)).trans rfl
        have hRW := HR2.out.kept (HS.out.2.1 (Nm.out (by decide)))
        have c0 := hRW.cell 0 rfl
        have c1 := hRW.cell 1 rfl
        have f0 := hRW.frozen (by decide) 0
        have f1 := hRW.frozen (by decide) 1
        have HE := Lib.hid (hRW.set2 (.string X) (.string V))
        have HBE := Lib.hid ((HS.out.1.setCell (p := ⟨w.heap.size + 1, 0, none⟩) (Nat.le_succ _) (.string X)).setCell (p := ⟨w.heap.size + 1, 1, none⟩) (Nat.le_succ _) (.string V))
        clear hRW
        refine wpOp_mono (fun a' w' (h : ∃ v, a' = A0.put none v ∧ Hid (Blk w' (w.heap.size + 1) 30 [.string X, .string V]) ∧ Hid (Below w.heap.size w w')) => by obtain ⟨v, h1, h2, h3⟩ := h; exact ⟨v, h1, .inr ⟨rfl, ⟨h3.out, fun hx => (by cases hx), fun _ => h2.out⟩, .inr (.inl rfl)⟩⟩) ?_
        refine wpOp_plain rfl rfl ?_
        clear hdep h0
        unfold Oper.wp
        go_simp
        all_goals exact ⟨undef, rfl, HE, HBE⟩
      · obtain rfl := Option.some.inj ho
        have l8 := hdep ⟨8, .chain⟩ (by simp) rfl
        refine wpOp_mono (fun a' w' (h : ∃ v, a' = A0.put (some 3) v ∧ Hid (v = .int .i64 0) ∧ Hid (w' = W)) => by obtain ⟨v, h1, h2, h3⟩ := h; exact ⟨v, h1, .inl ⟨by decide, by rw [h3.out]; exact HS.out, .inr (.inr h2.out), by rw [h3.out]; exact Below.refl _ _⟩⟩) ?_
        refine wpOp_plain rfl rfl ?_
        clear hdep h0
        unfold Oper.wp
        go_simp
        exact ⟨_, rfl, Lib.hid rfl, Lib.hid (by trivial)⟩
  · have Hl : Hid (Bt.line s = ⟨⟨#[]⟩, ⟨#[]⟩⟩) := Lib.hid (by unfold Bt.line; rw [if_neg he]; rfl)
    have hn : ((Bt.err s : Int) != 0) = true := by simpa using he
    rw [Hl.out]
    obtain ⟨sk, st, sn, sa, sb⟩ := s
    have hw1' : w1 = (w.alloc (.cells #[.int .i64 sk, .string st, .int .i64 sn, .int .u32 (sa : Int), .int .i64 sb] 26)).alloc (.cells #[.string ⟨#[]⟩, .string ⟨#[]⟩] 30) := hw1
    obtain ⟨⟨g0, g1, g2, g3, g4⟩, -⟩ := hG.facts5
    clear he hA hG hR hw1
    generalize Bt.err ⟨sk, st, sn, sa, sb⟩ = r at *
    unfold setV at HC ⊢
    unfold lineV
    go_enter Tryd.func8, Tryd.ntmps8
    go_upto_region 1 with fail
    rw [← hw1']
    clear hw1'
    go_wp2_with fail
    refine (HC.out w1 HA.out).mono ?_
    rintro e w2 ⟨rfl, hb2⟩
    have hR2 := HR.out.kept hb2
    have c0 := hR2.cell 0 rfl
    have c1 := hR2.cell 1 rfl
    have f0 := hR2.frozen (by decide) 0
    have f1 := hR2.frozen (by decide) 1
    have HE := Lib.hid (hR2.set2 (.string ⟨#[]⟩) (.string ⟨#[]⟩))
    have HB2 := Lib.hid (HA.out.trans (hb2.mono HA.out.size))
    clear hR2 hb2 g0 g1 g2 g3 g4
    go_wp2
    exact bodyPost_ret (ret_cell (load_line HE.out rfl) Tryd.results8 rfl rfl) rfl ⟨rfl, (HB2.out.setCell (p := ⟨w.heap.size + 1, 0, none⟩) (Nat.le_succ _) _).setCell (p := ⟨w.heap.size + 1, 1, none⟩) (Nat.le_succ _) _⟩
end Go.Proofs.YthlagpmacnijfaaDoor

namespace Go.Proofs.YthlagpmacnijfaaDoor

theorem text_eq (x y : ByteArray) : x = y ∨ (x.toList == y.toList) = false := by
  by_cases h : x = y
  · exact .inl h
  · refine .inr (beq_eq_false_iff_ne.2 fun e => h ?_)
    rw [ByteArray.toList_eq, ByteArray.toList_eq] at e
    exact WideShapes.bytes_inj e
theorem line_parts (xa ya xb yb : ByteArray) : (xa = ya ∧ xb = yb) ∨ (xa.toList == ya.toList) = false ∨ (xa = ya ∧ (xb.toList == yb.toList) = false) := by
  rcases text_eq xa ya with h | h
  · rcases text_eq xb yb with g | g
    · exact .inl ⟨h, g⟩
    · exact .inr (.inr ⟨h, g⟩)
  · exact .inr (.inl h)
end Go.Proofs.YthlagpmacnijfaaDoor
