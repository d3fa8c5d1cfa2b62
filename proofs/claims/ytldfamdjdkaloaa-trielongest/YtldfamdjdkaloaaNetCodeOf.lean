/- The contract of the program's net.Of. -/
import Derived.Test.YtldfamdjdkaloaaNetCode1
namespace Go.Proofs.Ytldfamdjdkaloaa
open Go.RowKit

set_option maxHeartbeats 800000 in
theorem net_Of (a : Nat) (b : Int) (w : World) (ha : a < 4294967296) (_b0 : -9223372036854775808 ≤ b) (_b1 : b ≤ 9223372036854775807) :
    Calls Try.prog 94 #[.int .u32 (a : Int), .int .i64 b] w fun e w' => e = .returned (.tuple #[netV (Nt.ofAddr a b) (Nt.ofBits b), .int .i64 (Nt.ofErr b : Int)]) ∧ Below w.heap.size w w' := by
  have R4 := own_two (w := w.alloc (.cells #[.int .u32 0, .int .i64 0] 28)) (base := w.heap.size) (heap_alloc_last w _) (Nat.le_refl _)
  have hA : Below w.heap.size w (w.alloc (.cells #[.int .u32 0, .int .i64 0] 28)) := (Below.refl _ _).alloc (Nat.le_refl _) _
  have HR := Lib.hid (fun W => net_inRange b W)
  unfold netV
  by_cases h : b < 0 ∨ 32 < b
  · have H1 := Lib.hid (show Nt.ofAddr a b = 0 by unfold Nt.ofAddr; rw [if_pos h])
    have H2 := Lib.hid (show Nt.ofBits b = 0 by unfold Nt.ofBits; rw [if_pos h])
    have H3 := Lib.hid (show Nt.ofErr b = 4 by unfold Nt.ofErr; rw [if_pos h])
    rw [decide_eq_false (show ¬ (0 ≤ b ∧ b ≤ 32) by omega)] at HR
    go_enter Try.func94, Try.ntmps94
    go_wp2_with fail
    refine (HR.out _).mono ?_
    rintro e w1 ⟨rfl, hw1⟩
    subst hw1
    go_wp2
    exact bodyPost_ret (net_ret Try.results94 rfl rfl R4) rfl ⟨ret_net_err (by rw [H1.out, H2.out]; rfl) (by rw [H3.out]; rfl), hA⟩
  · obtain ⟨n, rfl⟩ : ∃ n : Nat, b = (n : Int) := ⟨b.toNat, by omega⟩
    have hn : n ≤ 32 := by omega
    have H1 := Lib.hid (show Nt.ofAddr a n = Nt.cut a n by unfold Nt.ofAddr; rw [if_neg h, Int.toNat_natCast])
    have H2 := Lib.hid (show Nt.ofBits n = n by unfold Nt.ofBits; rw [if_neg h])
    have H3 := Lib.hid (show Nt.ofErr n = 0 by unfold Nt.ofErr; rw [if_neg h])
    rw [decide_eq_true (show (0 ≤ (n : Int) ∧ (n : Int) ≤ 32) by omega)] at HR
    clear h
    have HM := Lib.hid (fun W => net_mask n W hn)
    have hb := bits_and_mask a n ha hn
    have R5 := own_two (w := w.alloc (.cells #[.int .u32 (Nt.cut a n : Int), .int .i64 (n : Int)] 28)) (base := w.heap.size) (heap_alloc_last w _) (Nat.le_refl _)
    have hB : Below w.heap.size w (w.alloc (.cells #[.int .u32 (Nt.cut a n : Int), .int .i64 (n : Int)] 28)) := (Below.refl _ _).alloc (Nat.le_refl _) _
    generalize Nt.mask n = m at *
    generalize Nt.cut a n = A at *
    go_enter Try.func94, Try.ntmps94
    go_wp2_with fail
    refine (HR.out _).mono ?_
    rintro e w1 ⟨rfl, hw1⟩
    subst hw1
    go_wp2_with fail
    refine (HM.out _).mono ?_
    rintro e w1 ⟨rfl, hw1⟩
    subst hw1
    go_wp2
    exact bodyPost_ret (net_ret Try.results94 rfl rfl R5) rfl ⟨ret_net_err (by rw [H1.out, H2.out]) (by rw [H3.out]; rfl), hB⟩
end Go.Proofs.Ytldfamdjdkaloaa
