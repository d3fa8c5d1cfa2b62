/- The contract of mac.same. -/
import Derived.Test.YthknkfiofdfogaaDoorMem3
import Derived.Test.YthknkfiofdfogaaDoorMacPlain
namespace Go.Proofs.YthknkfiofdfogaaDoor
open Go.RowKit

set_option maxHeartbeats 400000 in
theorem mac_same (a b : Option Addr) (n m c c' : Nat) (xs ys : List UInt8) (w : World) (h : BytesAt w w.heap.size a n xs) (h' : BytesAt w w.heap.size b m ys) (hn : n ≤ maxLen) (hm : m ≤ maxLen) :
    Calls Tryd.prog 37 #[.slice a n c, .slice b m c'] w fun e w' => e = .returned (.bool (decide (xs = ys))) ∧ Below w.heap.size w w' := by
  unfold maxLen at hn hm
  by_cases hl : n = m
  · subst hl
    have Hd := Lib.hid (Mc.diff_all xs ys (by rw [h.1, h'.1]))
    have Hl := Lib.hid h.1
    go_enter Tryd.func37, Tryd.ntmps37
    go_wp2
    go_loopw [5, 14] (fun d i wr => ∃ k : Nat, k ≤ n ∧ i = .int .i64 k ∧ d = .int .u8 ((Mc.diffTo xs ys k).toNat : Int) ∧ Below w.heap.size w wr) (fun _ i _ => n - (intOf i).toNat)
    case atStart => exact ⟨0, Nat.zero_le _, rfl, rfl, Below.refl _ _⟩
    case round =>
      obtain ⟨k, hk, rfl, rfl, hb⟩ := hrel
      by_cases hlt : k < n
      · obtain ⟨g, off, rfl, hc1⟩ := bytes_lt (h.below hb) hlt
        obtain ⟨g', off', rfl, hc2⟩ := bytes_lt (h'.below hb) hlt
        have x1 := xor_u8 (xs.getD k 0) (ys.getD k 0)
        have x2 := or_u8 (Mc.diffTo xs ys k) (xs.getD k 0 ^^^ ys.getD k 0)
        rw [show Mc.diffTo xs ys k ||| (xs.getD k 0 ^^^ ys.getD k 0) = Mc.diffTo xs ys (k + 1) from rfl] at x2
        clear h h'
        generalize xs.getD k 0 ^^^ ys.getD k 0 = Z at *
        generalize xs.getD k 0 = X at *
        generalize ys.getD k 0 = Y at *
        go_wp2_with fail
        go_quiet (fail)
        go_wp2
        go_roundw
        case rel => exact ⟨k + 1, by omega, by go_num, rfl, below_drewN hb _⟩
        case measure => simp [intOf]; omega
      · obtain rfl : k = n := by omega
        have hz : (((Mc.diffTo xs ys k).toNat : Int) == 0) = decide (xs = ys) := by
          have hd := Hd.out
          rw [Hl.out] at hd
          by_cases he : xs = ys
          · rw [hd.2 he, decide_eq_true he]; rfl
          · rw [decide_eq_false he]
            have : (Mc.diffTo xs ys k).toNat ≠ 0 := fun h0 => he (hd.1 (UInt8.toNat_inj.1 h0))
            simp; omega
        have Hz := Lib.hid hz
        clear hz h h'
        generalize Mc.diffTo xs ys k = D at *
        go_wp2
        go_ret
        exact ⟨by rw [← Hz.out]; rfl, hb⟩
  · have hne : ((n : Int) != (m : Int)) = true := by simp; omega
    have Hx := Lib.hid (show xs ≠ ys from fun e => hl (by rw [← h.1, ← h'.1, e]))
    clear h h'
    go_enter Tryd.func37, Tryd.ntmps37
    go_wp2
    go_ret
    exact ⟨by rw [decide_eq_false Hx.out]; rfl, Below.refl _ _⟩
end Go.Proofs.YthknkfiofdfogaaDoor
