/- The contract of the program's net.Join. -/
import Derived.Test.YtldfamdjdkaloaaNetCodeOf
import Derived.Test.YtldfamdjdkaloaaNetFacts
import Derived.Test.YtldfamdjdkaloaaShelfBits
import Derived.Lib.BitFns
import Derived.StillTailTactics
namespace Go.Proofs.Ytldfamdjdkaloaa
open Go.RowKit

theorem bitLen_lt {x k : Nat} (hx : x < 4294967296) (h : Lib.bitLen x ≤ k) : x < 2 ^ k := by
  apply Decidable.byContradiction
  intro hn
  have h2 : 2 ^ k ≤ x := by omega
  have hs := Lib.bitLen_shift k x h2 (by omega)
  have hp := Nat.two_pow_pos k
  have hq : x / 2 ^ k ≠ 0 := by
    have := Nat.div_pos h2 hp
    omega
  have hl : x / 2 ^ k < 2 ^ 64 := Nat.lt_of_le_of_lt (Nat.div_le_self _ _) (by omega)
  have := Lib.bitLen_half _ hq hl
  omega
theorem cut_iff (n m j : Nat) (hn : n < 4294967296) (hm : m < 4294967296) (hj : j ≤ 32) : Nt.cut n j = Nt.cut m j ↔ j + Lib.bitLen (n ^^^ m) ≤ 32 := by
  have hx : n ^^^ m < 4294967296 := Nat.xor_lt_two_pow (n := 32) hn hm
  have e : (n ^^^ m) / 2 ^ (32 - j) = n / 2 ^ (32 - j) ^^^ m / 2 ^ (32 - j) := by
    rw [← Nat.shiftRight_eq_div_pow, ← Nat.shiftRight_eq_div_pow, ← Nat.shiftRight_eq_div_pow, Nat.shiftRight_xor_distrib]
  have hp := Nat.two_pow_pos (32 - j)
  constructor
  · intro h
    unfold Nt.cut at h
    have h1 : n / 2 ^ (32 - j) = m / 2 ^ (32 - j) := Nat.eq_of_mul_eq_mul_right hp h
    rw [h1, Nat.xor_self] at e
    have h2 : n ^^^ m < 2 ^ (32 - j) := by
      have := Nat.div_add_mod (n ^^^ m) (2 ^ (32 - j))
      rw [e, Nat.mul_zero, Nat.zero_add] at this
      rw [← this]; exact Nat.mod_lt _ hp
    have := Lib.bitLen_le _ (32 - j) (by omega) h2
    omega
  · intro h
    have h2 := bitLen_lt (x := n ^^^ m) (k := 32 - j) hx (by omega)
    rw [Nat.div_eq_of_lt h2] at e
    unfold Nt.cut
    have : n / 2 ^ (32 - j) = m / 2 ^ (32 - j) := by
      have h3 := congrArg (fun z => z ^^^ (m / 2 ^ (32 - j))) e
      simp only [Nat.xor_assoc, Nat.xor_self, Nat.xor_zero, Nat.zero_xor] at h3
      exact h3.symm
    rw [this]
theorem common_bits (n m k : Nat) (hn : n < 4294967296) (hm : m < 4294967296) (hk : k ≤ 32) : Nt.common n m k = min k (32 - Lib.bitLen (n ^^^ m)) := by
  have hx : n ^^^ m < 4294967296 := Nat.xor_lt_two_pow (n := 32) hn hm
  have hl := Lib.bitLen_le _ 32 (by decide) (show n ^^^ m < 2 ^ 32 from hx)
  have h1 := Nt.common_le n m k
  have h2 := (cut_iff n m _ hn hm (by omega)).1 (Nt.common_eq n m hn hm k)
  have h3 := Nt.common_max n m k (min k (32 - Lib.bitLen (n ^^^ m))) (Nat.min_le_left _ _) ((cut_iff n m _ hn hm (by omega)).2 (by omega))
  omega

theorem nt_of_join (a b c d : Nat) (hb : b ≤ 32) : Nt.ofAddr a ((Nt.common a c (min b d) : Nat) : Int) = Nt.cut a (Nt.common a c (min b d)) ∧ Nt.ofBits ((Nt.common a c (min b d) : Nat) : Int) = ((Nt.common a c (min b d) : Nat) : Int) ∧ Nt.ofErr ((Nt.common a c (min b d) : Nat) : Int) = 0 := by
  have := Nt.common_le a c (min b d)
  unfold Nt.ofAddr Nt.ofBits Nt.ofErr
  rw [if_neg (by omega), if_neg (by omega), if_neg (by omega), Int.toNat_natCast]
  exact ⟨rfl, rfl, rfl⟩

set_option maxRecDepth 20000 in
set_option maxHeartbeats 1600000 in
theorem net_Join_bad1 (a : Nat) (b : Int) (c : Nat) (d : Int) (w : World) (ha : a < 4294967296) (b0 : -9223372036854775808 ≤ b) (b1 : b ≤ 9223372036854775807) (he : Nt.err a b ≠ 0) :
    Calls Try.prog 79 #[netV a b, netV c d] w fun e w' => e = .returned (.tuple #[netV 0 0, .int .i64 (Nt.err a b : Int)]) ∧ Below w.heap.size w w' := by
  have h3 := three_nets w (.int .u32 (a : Int)) (.int .i64 b) (.int .u32 (c : Int)) (.int .i64 d)
  obtain ⟨w1, hw1⟩ : ∃ w1, w1 = ((w.alloc (.cells #[.int .u32 (a : Int), .int .i64 b] 28)).alloc (.cells #[.int .u32 (c : Int), .int .i64 d] 28)).alloc (.cells #[.int .u32 0, .int .i64 0] 28) := ⟨_, rfl⟩
  rw [← hw1] at h3
  obtain ⟨hA, hz1, hg2, hg3, hg4⟩ := h3
  have HC := Lib.hid (fun W => net_Check a b W ha b0 b1)
  have hz : ((Nt.err a b : Int) == 0) = false := by simp; omega
  unfold netV at HC ⊢
  clear he
  obtain ⟨c0, c1⟩ := net_cells hg2 (Below.refl _ _)
  generalize Nt.err a b = r at *
  go_enter Try.func79, Try.ntmps79
  go_wp2_with fail
  rw [← hw1]
  refine (HC.out _).mono ?_
  rintro e w2 ⟨rfl, hb2⟩
  have R4 := own_below2 (own_two (base := w.heap.size) hg4 (by omega)) hb2
  obtain ⟨g0, g1⟩ := two_cells R4
  have f0 := R4.frozenAt 0
  have f1 := R4.frozenAt 1
  have R5 := two_set R4 (.int .u32 0) (.int .i64 0)
  have hB2 := hA.trans (hb2.mono (by omega))
  clear hg2 hg3 hg4 c0 c1 hw1
  go_wp2
  exact bodyPost_ret (net_ret Try.results79 rfl rfl R5) rfl ⟨rfl, (hB2.setCell (by simp; omega) _).setCell (by simp; omega) _⟩

set_option maxRecDepth 20000 in
set_option maxHeartbeats 1600000 in
theorem net_Join_bad2 (a : Nat) (b : Int) (c : Nat) (d : Int) (w : World) (ha : a < 4294967296) (hc : c < 4294967296) (b0 : -9223372036854775808 ≤ b) (b1 : b ≤ 9223372036854775807) (d0 : -9223372036854775808 ≤ d) (d1 : d ≤ 9223372036854775807) (hz0 : Nt.err a b = 0) (he : Nt.err c d ≠ 0) :
    Calls Try.prog 79 #[netV a b, netV c d] w fun e w' => e = .returned (.tuple #[netV 0 0, .int .i64 (Nt.err c d : Int)]) ∧ Below w.heap.size w w' := by
  have h3 := three_nets w (.int .u32 (a : Int)) (.int .i64 b) (.int .u32 (c : Int)) (.int .i64 d)
  obtain ⟨w1, hw1⟩ : ∃ w1, w1 = ((w.alloc (.cells #[.int .u32 (a : Int), .int .i64 b] 28)).alloc (.cells #[.int .u32 (c : Int), .int .i64 d] 28)).alloc (.cells #[.int .u32 0, .int .i64 0] 28) := ⟨_, rfl⟩
  rw [← hw1] at h3
  obtain ⟨hA, hz1, hg2, hg3, hg4⟩ := h3
  have HC := Lib.hid (fun W => net_Check a b W ha b0 b1)
  have HD := Lib.hid (fun W => net_Check c d W hc d0 d1)
  have hz : ((Nt.err c d : Int) == 0) = false := by simp; omega
  rw [hz0] at HC
  unfold netV at HC HD ⊢
  clear he hz0
  obtain ⟨c0, c1⟩ := net_cells hg2 (Below.refl _ _)
  generalize Nt.err c d = r at *
  go_enter Try.func79, Try.ntmps79
  go_wp2_with fail
  rw [← hw1]
  refine (HC.out _).mono ?_
  rintro e w2 ⟨rfl, hb2⟩
  obtain ⟨e0, e1⟩ := net_cells hg3 hb2
  clear c0 c1
  go_wp2_with fail
  refine (HD.out _).mono ?_
  rintro e w3 ⟨rfl, hb3⟩
  have hb23 := hb2.trans (hb3.mono hb2.size)
  have R4 := own_below2 (own_two (base := w.heap.size) hg4 (by omega)) hb23
  obtain ⟨g0, g1⟩ := two_cells R4
  have f0 := R4.frozenAt 0
  have f1 := R4.frozenAt 1
  have R5 := two_set R4 (.int .u32 0) (.int .i64 0)
  have hB2 := hA.trans (hb23.mono (by omega))
  clear hg2 hg3 hg4 e0 e1 hw1
  go_wp2
  exact bodyPost_ret (net_ret Try.results79 rfl rfl R5) rfl ⟨rfl, (hB2.setCell (by simp; omega) _).setCell (by simp; omega) _⟩

set_option maxRecDepth 20000 in
set_option maxHeartbeats 3200000 in
theorem net_Join_good (a b c d : Nat) (w : World) (ha : a < 4294967296) (hc : c < 4294967296) (hb : b ≤ 32) (hd : d ≤ 32) (hz0 : Nt.err a (b : Int) = 0) (he : Nt.err c (d : Int) = 0) :
    Calls Try.prog 79 #[netV a b, netV c d] w fun e w' => e = .returned (.tuple #[netV (Nt.cut a (Nt.common a c (min b d))) (Nt.common a c (min b d) : Int), .int .i64 0]) ∧ Below w.heap.size w w' := by
  have h3 := three_nets w (.int .u32 (a : Int)) (.int .i64 (b : Int)) (.int .u32 (c : Int)) (.int .i64 (d : Int))
  obtain ⟨w1, hw1⟩ : ∃ w1, w1 = ((w.alloc (.cells #[.int .u32 (a : Int), .int .i64 (b : Int)] 28)).alloc (.cells #[.int .u32 (c : Int), .int .i64 (d : Int)] 28)).alloc (.cells #[.int .u32 0, .int .i64 0] 28) := ⟨_, rfl⟩
  rw [← hw1] at h3
  obtain ⟨hA, hz1, hg2, hg3, hg4⟩ := h3
  have HC := Lib.hid (fun W => net_Check a (b : Int) W ha (by omega) (by omega))
  have HD := Lib.hid (fun W => net_Check c (d : Int) W hc (by omega) (by omega))
  have hcl := Nt.common_le a c (min b d)
  have HO := Lib.hid (fun W => net_Of a ((Nt.common a c (min b d) : Nat) : Int) W ha (by omega) (by omega))
  obtain ⟨o1, o2, o3⟩ := nt_of_join a b c d hb
  rw [o1, o2, o3] at HO
  rw [hz0] at HC
  rw [he] at HD
  have hx : a ^^^ c < 4294967296 := Nat.xor_lt_two_pow (n := 32) ha hc
  have hxor : bits .xor .u32 (a : Int) (c : Int) = ((a ^^^ c : Nat) : Int) := u32_xor_nat a c ha hc
  have HL := Lib.hid (fun W => Try.bits_LeadingZeros32 ((a ^^^ c : Nat) : Int) W (by omega) (by omega))
  rw [Int.toNat_natCast] at HL
  have hbl := Lib.bitLen_le _ 32 (by decide) (show a ^^^ c < 2 ^ 32 from hx)
  have hcm := common_bits a c (min b d) ha hc (by omega)
  unfold netV at HC HD HO ⊢
  clear he hz0 o1 o2 o3
  generalize Nt.cut a (Nt.common a c (min b d)) = A at *
  generalize Nt.common a c (min b d) = J at *
  generalize Lib.bitLen (a ^^^ c) = l at *
  generalize a ^^^ c = x at *
  have Hcm : Hid (J = min (min b d) (32 - l)) := Lib.hid hcm
  clear hcm
  have HJ : Hid (∀ (y : Int) (W : World), y = (J : Int) → Calls Try.prog 94 #[.int .u32 (a : Int), .int .i64 y] W fun e w' => e = .returned (.tuple #[.agg #[.int .u32 (A : Int), .int .i64 (J : Int)], .int .i64 0]) ∧ Below W.heap.size W w') := Lib.hid fun y W hy => by rw [hy]; exact HO.out W
  rw [show (32 : Int) - (l : Int) = ((32 - l : Nat) : Int) by omega] at HL
  obtain ⟨c0, c1⟩ := net_cells hg2 (Below.refl _ _)
  go_enter Try.func79, Try.ntmps79
  go_wp2_with fail
  rw [← hw1]
  refine (HC.out _).mono ?_
  rintro e w2 ⟨rfl, hb2⟩
  obtain ⟨e0, e1⟩ := net_cells hg3 hb2
  clear c0 c1
  go_wp2_with fail
  refine (HD.out _).mono ?_
  rintro e w3 ⟨rfl, hb3⟩
  have hb23 := hb2.trans (hb3.mono hb2.size)
  obtain ⟨c0, c1⟩ := net_cells hg2 hb23
  obtain ⟨c2, c3⟩ := net_cells hg3 hb23
  clear e0 e1 hw1
  have q : ∀ ad : Addr, ({ heap := w3.heap, tape := w3.tape, drawn := w3.drawn + 1, os := w3.os, output := w3.output } : World).cell? ad = w3.cell? ad := fun _ => rfl
  go_wp2_with fail
  refine wp_region_still_tail 10 (by kernel_rfl) (by kernel_rfl) ?_
  simp only [List.take_succ_cons, List.take_zero, List.drop_succ_cons, List.drop_zero]
  iterate 9 still_step
  still_call (HL.out _)
  refine wpStill_nil ?_
  change wpList _ _ _ _ _ w3.drew
  have hb4 := hb23.drew
  generalize w3.drew = w4 at *
  clear q c0 c1 c2 c3 hb23
  obtain ⟨c0, c1⟩ := net_cells hg2 hb4
  generalize he : 32 - l = E at *
  clear he
  go_wp2_with (go_at_call 94; refine (HJ.out _ _ (by have := Hcm.out; omega)).mono ?_; rintro e w5 ⟨rfl, hb5⟩; have hb45 := hb4.trans (hb5.mono hb4.size); have R4 := own_below2 (own_two (base := w.heap.size) hg4 (by omega)) hb45; obtain ⟨g0, g1⟩ := two_cells R4; have f0 := R4.frozenAt 0; have f1 := R4.frozenAt 1)
  all_goals
    have R5 := two_set R4 (.int .u32 (A : Int)) (.int .i64 (J : Int))
    have hB2 := hA.trans (hb45.mono (by omega))
    exact bodyPost_ret (net_ret Try.results79 rfl rfl R5) rfl ⟨rfl, (hB2.setCell (by simp; omega) _).setCell (by simp; omega) _⟩

theorem net_Join (a : Nat) (b : Int) (c : Nat) (d : Int) (w : World) (ha : a < 4294967296) (hc : c < 4294967296) (b0 : -9223372036854775808 ≤ b) (b1 : b ≤ 9223372036854775807) (d0 : -9223372036854775808 ≤ d) (d1 : d ≤ 9223372036854775807) :
    Calls Try.prog 79 #[netV a b, netV c d] w fun e w' => e = .returned (.tuple #[netV (Nt.joinAddr a b c d) (Nt.joinBits a b c d : Int), .int .i64 (Nt.joinErr a b c d : Int)]) ∧ Below w.heap.size w w' := by
  unfold Nt.joinAddr Nt.joinBits
  by_cases h1 : Nt.err a b = 0
  · by_cases h2 : Nt.err c d = 0
    · have hj : Nt.joinErr a b c d = 0 := by unfold Nt.joinErr; rw [if_neg (fun h => h h1), h2]
      rw [hj, if_pos rfl, if_pos rfl]
      obtain ⟨p0, p1, _⟩ := Nt.err_zero h1
      obtain ⟨q0, q1, _⟩ := Nt.err_zero h2
      obtain ⟨n, rfl⟩ : ∃ n : Nat, b = (n : Int) := ⟨b.toNat, by omega⟩
      obtain ⟨m, rfl⟩ : ∃ m : Nat, d = (m : Int) := ⟨d.toNat, by omega⟩
      rw [Int.toNat_natCast, Int.toNat_natCast]
      exact net_Join_good a n c m w ha hc (by omega) (by omega) h1 h2
    · have hj : Nt.joinErr a b c d = Nt.err c d := by unfold Nt.joinErr; rw [if_neg (fun h => h h1)]
      rw [hj, if_neg h2, if_neg h2]
      exact net_Join_bad2 a b c d w ha hc b0 b1 d0 d1 h1 h2
  · have hj : Nt.joinErr a b c d = Nt.err a b := by unfold Nt.joinErr; rw [if_pos h1]
    rw [hj, if_neg h1, if_neg h1]
    exact net_Join_bad1 a b c d w ha b0 b1 h1
end Go.Proofs.Ytldfamdjdkaloaa
