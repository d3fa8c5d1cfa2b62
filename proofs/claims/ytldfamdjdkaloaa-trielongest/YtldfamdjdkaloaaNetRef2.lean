/- The contract of the reference's NetOf. -/
import Derived.Test.YtldfamdjdkaloaaNetRef1
import Derived.Deep.RegionWith
import Derived.IntWalk
namespace Go.Proofs.Ytldfamdjdkaloaa
open Go.RowKit

set_option maxRecDepth 20000 in
set_option maxHeartbeats 1600000 in
theorem ref_NetOf (a : Nat) (b : Int) (w : World) (ha : a < 4294967296) :
    Calls Try.prog 68 #[.int .u32 (a : Int), .int .i64 b] w fun e w' => e = .returned (.tuple #[netV (Nt.ofAddr a b) (Nt.ofBits b), .int .i64 (Nt.ofErr b : Int)]) ∧ Below w.heap.size w w' := by
  have R4 := own_two (w := w.alloc (.cells #[.int .u32 0, .int .i64 0] 28)) (base := w.heap.size) (heap_alloc_last w _) (Nat.le_refl _)
  have hA : Below w.heap.size w (w.alloc (.cells #[.int .u32 0, .int .i64 0] 28)) := (Below.refl _ _).alloc (Nat.le_refl _) _
  unfold netV
  by_cases h : b < 0 ∨ 32 < b
  · have H1 := Lib.hid (show Nt.ofAddr a b = 0 by unfold Nt.ofAddr; rw [if_pos h])
    have H2 := Lib.hid (show Nt.ofBits b = 0 by unfold Nt.ofBits; rw [if_pos h])
    have H3 := Lib.hid (show Nt.ofErr b = 4 by unfold Nt.ofErr; rw [if_pos h])
    rcases h with h | h
    · have d1 : decide (b < 0) = true := decide_eq_true h
      go_enter Try.func68, Try.ntmps68
      go_wp2
      exact bodyPost_ret (net_ret Try.results68 rfl rfl R4) rfl ⟨ret_net_err (by rw [H1.out, H2.out]; rfl) (by rw [H3.out]; rfl), hA⟩
    · have d1 : decide (b < 0) = false := decide_eq_false (by omega)
      have d2 : decide (32 < b) = true := decide_eq_true h
      go_enter Try.func68, Try.ntmps68
      go_wp2
      exact bodyPost_ret (net_ret Try.results68 rfl rfl R4) rfl ⟨ret_net_err (by rw [H1.out, H2.out]; rfl) (by rw [H3.out]; rfl), hA⟩
  · obtain ⟨n, rfl⟩ : ∃ n : Nat, b = (n : Int) := ⟨b.toNat, by omega⟩
    have hn : n ≤ 32 := by omega
    have H1 := Lib.hid (show Nt.ofAddr a n = Nt.cut a n by unfold Nt.ofAddr; rw [if_neg h, Int.toNat_natCast])
    have H2 := Lib.hid (show Nt.ofBits n = n by unfold Nt.ofBits; rw [if_neg h])
    have H3 := Lib.hid (show Nt.ofErr n = 0 by unfold Nt.ofErr; rw [if_neg h])
    have d1 : decide ((n : Int) < 0) = false := decide_eq_false (by omega)
    have d2 : decide (32 < (n : Int)) = false := decide_eq_false (by omega)
    clear h
    have R6 := own_two (base := w.heap.size) (heap_alloc_last (w.alloc (.cells #[.int .u32 0, .int .i64 0] 28)) (.cells #[.int .u32 0, .int .i64 (n : Int)] 28)) (by simp)
    rw [show (w.alloc (.cells #[.int .u32 0, .int .i64 0] 28)).heap.size = w.heap.size + 1 by simp] at R6
    have R4' := own_below2 R4 ((Below.refl _ _).alloc (Nat.le_refl _) (.cells #[.int .u32 0, .int .i64 (n : Int)] 28))
    have HR := Lib.hid (And.intro R6 (And.intro R4' (hA.alloc (by simp) (.cells #[.int .u32 0, .int .i64 (n : Int)] 28))))
    clear R4 R4' R6 hA
    go_enter Try.func68, Try.ntmps68
    go_wp2
    go_loopw [7] (fun i wr => ∃ k : Nat, k ≤ n ∧ i = .int .i64 k ∧ Hid (wr.ownsRow w.heap.size 28 1 (.slice (some ⟨w.heap.size + 1, 0, none⟩) 2 2) 2 [.int .u32 (Nt.cut a k : Int), .int .i64 (n : Int)] ∧ wr.ownsRow w.heap.size 28 1 (.slice (some ⟨w.heap.size, 0, none⟩) 2 2) 2 [.int .u32 0, .int .i64 0] ∧ Below w.heap.size w wr)) (fun i _ => n - (intOf i).toNat)
    case atStart => exact ⟨0, Nat.zero_le _, rfl, Lib.hid (by rw [Nt.cut_zero a ha]; exact HR.out)⟩
    case round =>
      obtain ⟨k, hk, rfl, HW⟩ := hrel
      obtain ⟨wo, hwo⟩ : ∃ wo, wo = wr := ⟨_, rfl⟩
      subst hwo
      have hk32 : k ≤ 32 := by omega
      by_cases hlt : k < n
      · have HB := Lib.hid (fun W => ref_bit a k W ha (by omega))
        obtain ⟨c0, c1⟩ := two_cells HW.out.1
        have f0 := HW.out.1.frozenAt 0
        have hst := Nt.cut_step a k (by omega)
        have hcl := Nt.cut_lt a (k + 1) ha
        have hsub : (31 : Int) - (k : Int) = ((31 - k : Nat) : Int) := by omega
        have hx : a / 2 ^ (31 - k) % 2 < 2 := Nat.mod_lt _ (by decide)
        have hsl := bit_shl (a / 2 ^ (31 - k) % 2) (31 - k) hx (by omega)
        have hkk : 31 - k ≤ 31 := by omega
        rw [hst] at hcl
        have hw := u32_in _ hcl
        rw [Int.natCast_add] at hw
        have Hst := Lib.hid hst
        clear hst
        generalize a / 2 ^ (31 - k) % 2 = x at *
        generalize hy : x * 2 ^ (31 - k) = y at *
        generalize 31 - k = j at *
        have hjw : IntKind.i64.wrap (j : Int) = (j : Int) := IntWalk.i64_in _ (by omega)
        generalize Nt.cut a k = A at *
        clear hy
        go_wp2_with fail
        go_region_with (go_at_call 61; refine (HB.out _).mono ?_; rintro e w' ⟨rfl, rfl⟩)
        all_goals
          go_wp2
          go_roundw
          case rel => exact ⟨k + 1, by omega, by go_num, Lib.hid (by rw [Hst.out]; exact ⟨((HW.out.1.stored 0 _).1).drew, (HW.out.2.1.kept (HW.out.1.stored 0 _).2 (.inr (by simp [Value.ownBlock]))).drew, (HW.out.2.2.setCell (by simp) _).drew⟩)⟩
          case measure => simp [intOf]; omega
      · obtain rfl : k = n := by omega
        have R6 := HW.out.1
        have R4 := HW.out.2.1
        have hB := HW.out.2.2
        obtain ⟨c0, c1⟩ := two_cells R6
        obtain ⟨g0, g1⟩ := two_cells R4
        have f0 := R4.frozenAt 0
        have f1 := R4.frozenAt 1
        have R5 := two_set R4 (.int .u32 (Nt.cut a k : Int)) (.int .i64 (k : Int))
        generalize Nt.cut a k = A at *
        go_wp2
        exact bodyPost_ret (net_ret Try.results68 rfl rfl R5) rfl ⟨ret_net_err (by rw [H1.out, H2.out]) (by rw [H3.out]; rfl), (hB.setCell (by simp) _).setCell (by simp) _⟩
end Go.Proofs.Ytldfamdjdkaloaa
