/- The contract of the program's net.Has. -/
import Derived.Test.YtldfamdjdkaloaaNetCode1
import Derived.Deep.RegionHeld3
import Derived.Deep.RegionWith
namespace Go.Proofs.Ytldfamdjdkaloaa
open Go.RowKit

set_option maxRecDepth 20000 in
set_option maxHeartbeats 3200000 in
theorem net_Has (a : Nat) (b : Int) (x : Nat) (w : World) (ha : a < 4294967296) (hx : x < 4294967296) (b0 : -9223372036854775808 ≤ b) (b1 : b ≤ 9223372036854775807) :
    Calls Try.prog 32 #[netV a b, .int .u32 (x : Int)] w fun e w' => e = .returned (.bool (Nt.has a b x)) ∧ Below w.heap.size w w' := by
  obtain ⟨w1, hw1⟩ : ∃ w1, w1 = w.alloc (.cells #[.int .u32 (a : Int), .int .i64 b] 28) := ⟨_, rfl⟩
  have hg1 : w1.heap[w.heap.size]? = some (.cells #[.int .u32 (a : Int), .int .i64 b] 28 (0, 0)) := by rw [hw1]; exact heap_alloc_last w _
  have hA : Below w.heap.size w w1 := by rw [hw1]; exact (Below.refl _ _).alloc (Nat.le_refl _) _
  have hz1 : w1.heap.size = w.heap.size + 1 := by rw [hw1]; simp
  have HS : Hid (∀ W, Below w1.heap.size w1 W → (W.cell? ⟨w.heap.size, 0, none⟩ = some (.int .u32 (a : Int)) ∧ W.cell? ⟨w.heap.size, 1, none⟩ = some (.int .i64 b) ∧ Below w1.heap.size w1 W)) := Lib.hid fun W hW => ⟨(net_cells hg1 hW).1, (net_cells hg1 hW).2, hW⟩
  have HC : Hid (∀ W, (W.cell? ⟨w.heap.size, 0, none⟩ = some (.int .u32 (a : Int)) ∧ W.cell? ⟨w.heap.size, 1, none⟩ = some (.int .i64 b) ∧ Below w1.heap.size w1 W) → Calls Try.prog 36 #[.agg #[.int .u32 (a : Int), .int .i64 b]] W fun e W' => e = .returned (.int .i64 (Nt.err a b : Int)) ∧ (W'.cell? ⟨w.heap.size, 0, none⟩ = some (.int .u32 (a : Int)) ∧ W'.cell? ⟨w.heap.size, 1, none⟩ = some (.int .i64 b) ∧ Below w1.heap.size w1 W')) := Lib.hid fun W hW => (net_Check a b W ha b0 b1).mono fun e W' ⟨he, hb⟩ => ⟨he, HS.out W' (hW.2.2.trans (hb.mono hW.2.2.size))⟩
  obtain ⟨c0, c1, _⟩ := HS.out w1 (Below.refl _ _)
  unfold netV
  clear hg1
  rcases Nat.eq_zero_or_pos (Nt.err a b) with he | he
  · obtain ⟨h0, h1, h2⟩ := Nt.err_zero he
    obtain ⟨n, rfl⟩ : ∃ n : Nat, b = (n : Int) := ⟨b.toNat, by omega⟩
    have hn : n ≤ 32 := by omega
    have Hr : Hid (Nt.has a n x = decide (Nt.cut x n = a)) := Lib.hid (by unfold Nt.has; rw [he, Int.toNat_natCast]; rfl)
    rw [he] at HC
    have HM : Hid (∀ W, (W.cell? ⟨w.heap.size, 0, none⟩ = some (.int .u32 (a : Int)) ∧ W.cell? ⟨w.heap.size, 1, none⟩ = some (.int .i64 (n : Int)) ∧ Below w1.heap.size w1 W) → Calls Try.prog 56 #[.int .i64 (n : Int)] W fun e W' => e = .returned (.int .u32 (Nt.mask n : Int)) ∧ (W'.cell? ⟨w.heap.size, 0, none⟩ = some (.int .u32 (a : Int)) ∧ W'.cell? ⟨w.heap.size, 1, none⟩ = some (.int .i64 (n : Int)) ∧ Below w1.heap.size w1 W')) := Lib.hid fun W hW => (net_mask n W hn).mono fun e W' ⟨h, h'⟩ => ⟨h, h' ▸ hW⟩
    have hb := bits_and_mask x n hx hn
    clear he h2 h0 h1
    generalize Nt.mask n = m at *
    generalize Nt.cut x n = A at *
    go_enter Try.func32, Try.ntmps32
    go_wp2_with fail
    rw [← hw1]
    clear hw1
    go_region_held3 (fun W => W.cell? ⟨w.heap.size, 0, none⟩ = some (.int .u32 (a : Int)) ∧ W.cell? ⟨w.heap.size, 1, none⟩ = some (.int .i64 (n : Int)) ∧ Below w1.heap.size w1 W) (first | assumption | (exact ⟨c0, c1, (Below.refl _ _).drew⟩))
      (first
        | (go_at_call 36; refine (HC.out _ (by first | assumption | exact ⟨c0, c1, (Below.refl _ _).drew⟩)).mono ?_; rintro e w2 ⟨rfl, hS2⟩)
        | (go_at_call 56; refine (HM.out _ (by first | assumption | exact ⟨c0, c1, (Below.refl _ _).drew⟩)).mono ?_; rintro e w3 ⟨rfl, hS3⟩))
    all_goals
      have hB3 := hA.trans (hS3.2.2.mono (by omega))
      go_wp2
      go_ret
      exact ⟨by rw [Hr.out]; by_cases hq : A = a <;> simp [hq] <;> omega, hB3⟩
  · have Hr : Hid (Nt.has a b x = false) := Lib.hid (by unfold Nt.has; rw [decide_eq_false (by omega)]; rfl)
    have hz : ((Nt.err a b : Int) == 0) = false := by simp; omega
    clear he
    generalize Nt.err a b = r at *
    go_enter Try.func32, Try.ntmps32
    go_wp2_with fail
    rw [← hw1]
    clear hw1
    refine wp_region_any (by kernel_rfl) ?_
    change wpAny _ _ _ _ _ _ _ (World.drew _)
    refine wpAny_ready (rs := [0]) (by kernel_rfl) (by simp) (AllReady.cons rfl (fun K hK => ?_) AllReady.nil)
    go_simp
    refine hK _ _ ?_
    clear hK K
    refine wpAny_ready (rs := [1]) (by kernel_rfl) (by simp) (AllReady.cons rfl (fun K hK => ?_) AllReady.nil)
    go_simp
    go_wp2_with (go_at_call 36; refine (HC.out _ (by exact ⟨c0, c1, (Below.refl _ _).drew⟩)).mono ?_; rintro e w2 ⟨rfl, hS2⟩)
    refine wpAny_ready (rs := [2]) (by kernel_rfl) (by simp) (AllReady.cons rfl (fun K hK => ?_) AllReady.nil)
    go_simp
    refine hK _ _ ?_
    clear hK K
    refine wpAny_ready (rs := [3]) (by kernel_rfl) (by simp) (AllReady.cons rfl (fun K hK => ?_) AllReady.nil)
    go_simp
    refine hK _ _ ?_
    clear hK K
    refine wpAny_take (i := 4) (v := undef) rfl (by kernel_rfl) (by kernel_rfl) (by kernel_rfl) (fun _ _ _ h => h) (Or.inr ⟨by rfl, rfl⟩) ?_
    refine wpAny_take (i := 5) (v := undef) rfl (by kernel_rfl) (by kernel_rfl) (by kernel_rfl) (fun _ _ _ h => h) (Or.inr ⟨by rfl, rfl⟩) ?_
    refine wpAny_take (i := 6) (v := undef) rfl (by kernel_rfl) (by kernel_rfl) (by kernel_rfl) (fun _ _ _ h => h) (Or.inr ⟨by rfl, rfl⟩) ?_
    refine wpAny_take (i := 7) (v := undef) rfl (by kernel_rfl) (by kernel_rfl) (by kernel_rfl) (fun _ _ _ h => h) (Or.inr ⟨by rfl, rfl⟩) ?_
    refine wpAny_take (i := 8) (v := undef) rfl (by kernel_rfl) (by kernel_rfl) (by kernel_rfl) (fun _ _ _ h => h) (Or.inr ⟨by rfl, rfl⟩) ?_
    refine wpAny_take (i := 9) (v := undef) rfl (by kernel_rfl) (by kernel_rfl) (by kernel_rfl) (fun _ _ _ h => h) (Or.inr ⟨by rfl, rfl⟩) ?_
    refine wpAny_take (i := 10) (v := undef) rfl (by kernel_rfl) (by kernel_rfl) (by kernel_rfl) (fun _ _ _ h => h) (Or.inr ⟨by rfl, rfl⟩) ?_
    refine wpAny_take (i := 11) (v := undef) rfl (by kernel_rfl) (by kernel_rfl) (by kernel_rfl) (fun _ _ _ h => h) (Or.inr ⟨by rfl, rfl⟩) ?_
    refine wpAny_ready (rs := [12]) (by kernel_rfl) (by simp) (AllReady.cons rfl (fun K hK => ?_) AllReady.nil)
    go_simp
    refine hK _ _ ?_
    clear hK K
    refine wpAny_ready (rs := [13]) (by kernel_rfl) (by simp) (AllReady.cons rfl (fun K hK => ?_) AllReady.nil)
    go_simp
    refine hK _ _ ?_
    clear hK K
    refine wpAny_done (by kernel_rfl) ?_ _
    have hB3 := hA.trans (hS2.2.2.mono (by omega))
    go_wp2
    go_ret
    exact ⟨by rw [Hr.out]; rfl, hB3⟩
end Go.Proofs.Ytldfamdjdkaloaa
