/- Plain facts on bits of addresses; nothing of the program is named here. -/
import Derived.Test.YtldfamdjdkaloaaNetPlain
namespace Go.Proofs.Ytldfamdjdkaloaa.Nt

/-- One bit taken away. -/
theorem clear_bit (h r j : Nat) (hr : r < 2 ^ (j + 1)) (hx : 2 ^ (j + 1) * h + r < 4294967296) (hj : j < 32) : (2 ^ (j + 1) * h + r) &&& (4294967295 - 2 ^ j) = 2 ^ (j + 1) * h + r % 2 ^ j := by
  have hp : 2 ^ j < 2 ^ 32 := Nat.pow_lt_pow_right (by decide) hj
  have hl : r % 2 ^ j < 2 ^ j := Nat.mod_lt _ (Nat.two_pow_pos j)
  have hl1 : r % 2 ^ j < 2 ^ (j + 1) := by rw [Nat.pow_succ]; omega
  apply Nat.eq_of_testBit_eq
  intro t
  rw [show (4294967295 : Nat) - 2 ^ j = 2 ^ 32 - (2 ^ j + 1) by omega, Nat.testBit_and, Nat.testBit_two_pow_sub_succ hp, Nat.testBit_two_pow, Nat.testBit_two_pow_mul_add _ hr, Nat.testBit_two_pow_mul_add _ hl1]
  by_cases h1 : t < j + 1
  · rw [if_pos h1, if_pos h1, Nat.testBit_mod_two_pow]
    by_cases h2 : t = j
    · subst h2; simp
    · rw [decide_eq_true (show t < 32 by omega), decide_eq_false (show ¬ j = t by omega), decide_eq_true (show t < j by omega)]
      simp
  · rw [if_neg h1, if_neg h1]
    by_cases h3 : t < 32
    · rw [decide_eq_true h3, decide_eq_false (show ¬ j = t by omega)]
      simp
    · have hz : h.testBit (t - (j + 1)) = false := by
        apply Nat.testBit_lt_two_pow
        have hh : h < 2 ^ (32 - (j + 1)) := by
          apply Nat.lt_of_mul_lt_mul_left (a := 2 ^ (j + 1))
          rw [← Nat.pow_add, show j + 1 + (32 - (j + 1)) = 32 by omega]
          omega
        exact Nat.lt_of_lt_of_le hh (Nat.pow_le_pow_right (by decide) (by omega))
      rw [hz]
      simp
/-- The bits behind the first n taken away, one after the other. -/
theorem clear_step (a n k : Nat) (ha : a < 4294967296) (hn : n ≤ k) (hk : k < 32) : (cut a n + a % 2 ^ (32 - k)) &&& (4294967295 - 2 ^ (31 - k)) = cut a n + a % 2 ^ (32 - (k + 1)) := by
  have e1 : 32 - k = (31 - k) + 1 := by omega
  have e2 : 32 - (k + 1) = 31 - k := by omega
  have e3 : 2 ^ (32 - n) = 2 ^ (31 - k + 1) * 2 ^ (k - n) := by rw [← Nat.pow_add]; congr 1; omega
  have hc : cut a n = 2 ^ (31 - k + 1) * (a / 2 ^ (32 - n) * 2 ^ (k - n)) := by
    unfold cut
    conv => lhs; rw [e3]
    rw [e3, Nat.mul_comm (2 ^ (31 - k + 1)) (a / _ * _), Nat.mul_assoc, Nat.mul_comm (2 ^ (k - n)) (2 ^ (31 - k + 1))]
  have hle : cut a n + a % 2 ^ (32 - k) ≤ a := by
    have h1 : a % 2 ^ (32 - k) ≤ a % 2 ^ (32 - n) := by
      have : a % 2 ^ (32 - k) = a % 2 ^ (32 - n) % 2 ^ (32 - k) := (Nat.mod_mod_of_dvd a (Nat.pow_dvd_pow 2 (by omega))).symm
      rw [this]
      exact Nat.mod_le _ _
    have h2 : cut a n + a % 2 ^ (32 - n) = a := by unfold cut; rw [Nat.mul_comm]; exact Nat.div_add_mod a _
    omega
  rw [e1] at hle ⊢
  rw [e2]
  have hm : a % 2 ^ (31 - k + 1) % 2 ^ (31 - k) = a % 2 ^ (31 - k) := Nat.mod_mod_of_dvd a (Nat.pow_dvd_pow 2 (by omega))
  rw [hc] at hle ⊢
  rw [clear_bit _ _ _ (Nat.mod_lt _ (Nat.two_pow_pos _)) (by omega) (by omega), hm]
theorem cut_whole (a n : Nat) : cut a n + a % 2 ^ (32 - n) = a := by unfold cut; rw [Nat.mul_comm]; exact Nat.div_add_mod a _
end Go.Proofs.Ytldfamdjdkaloaa.Nt
