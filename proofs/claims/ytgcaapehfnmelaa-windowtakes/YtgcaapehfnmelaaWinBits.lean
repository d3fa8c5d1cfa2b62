/- What shifting does to the bits of chapter 5. -/
import Derived.Test.YtgcaapehfnmelaaWinPlain
namespace Go.Proofs.Ytgcaapehfnmelaa.Wn
theorem bad_shr (b : Nat) (la : Int) (h0 : 0 ≤ la) (hb : b < 18446744073709551616) : bad b la 64 = decide (b / 2 ^ (min (la + 1).toNat 64) ≠ 0) := by
  have hb' : b < 2 ^ 64 := hb
  by_cases h : b < 2 ^ (min (la + 1).toNat 64)
  · rw [Nat.div_eq_of_lt h]
    cases hB : bad b la 64
    · rfl
    · rw [bad_iff] at hB
      obtain ⟨i, hi, ht, hl⟩ := hB
      have : b.testBit i = false := Nat.testBit_lt_two_pow (Nat.lt_of_lt_of_le h (Nat.pow_le_pow_right (by decide) (by omega)))
      rw [this] at ht; cases ht
  · have hd : b / 2 ^ (min (la + 1).toNat 64) ≠ 0 := by
      intro e
      rw [Nat.div_eq_zero_iff] at e
      rcases e with e | e
      · have := Nat.two_pow_pos (min (la + 1).toNat 64); omega
      · exact h e
    rw [decide_eq_true hd, bad_iff]
    obtain ⟨i, hi, ht⟩ := Nat.exists_ge_and_testBit_of_ge_two_pow (Nat.le_of_not_lt h)
    have hi2 : i < 64 := by
      rcases Nat.lt_or_ge i 64 with h2 | h2
      · exact h2
      · rw [Nat.testBit_lt_two_pow (Nat.lt_of_lt_of_le hb' (Nat.pow_le_pow_right (by decide) h2))] at ht; cases ht
    exact ⟨i, hi2, ht, by omega⟩
theorem takeBits_none (la : Int) (b : Nat) (n : Int) : takeBits false la b n = 1 := by
  unfold takeBits
  symm
  apply bitsOf_eq
  · decide
  · intro i hi
    unfold came last
    rw [if_neg (by simp)]
    by_cases h : i = 0
    · subst h; simp
    · rw [decide_eq_false (show ¬ (n - (i : Int) = n) by omega)]
      have h1 : (1 : Nat).testBit i = false := by
        cases h2 : (1 : Nat).testBit i
        · rfl
        · rw [Nat.testBit_one_eq_true_iff_self_eq_zero] at h2; omega
      rw [h1]; rfl
theorem takeBits_ahead (la : Int) (b : Nat) (n : Int) (h : la < n) : takeBits true la b n = (b * 2 ^ (min (n - la).toNat 64)) % 18446744073709551616 ||| 1 := by
  unfold takeBits
  symm
  have e : (18446744073709551616 : Nat) = 2 ^ 64 := by decide
  apply bitsOf_eq
  · rw [e]; exact Nat.or_lt_two_pow (Nat.mod_lt _ (Nat.two_pow_pos _)) (by decide)
  · intro i hi
    rw [e, Nat.testBit_or, Nat.testBit_mod_two_pow, ← Nat.shiftLeft_eq, Nat.testBit_shiftLeft]
    unfold came last
    rw [if_neg (by intro hc; omega), decide_eq_true hi]
    by_cases h0 : i = 0
    · subst h0; simp
    · rw [decide_eq_false (show ¬ (n - (i : Int) = n) by omega)]
      have h1 : (1 : Nat).testBit i = false := by
        cases h2 : (1 : Nat).testBit i
        · rfl
        · rw [Nat.testBit_one_eq_true_iff_self_eq_zero] at h2; omega
      rw [h1]
      by_cases h3 : n - (i : Int) ≤ la
      · rw [decide_eq_true h3, decide_eq_true (show la - (n - (i : Int)) < 64 by omega), decide_eq_true (show i ≥ min (n - la).toNat 64 by omega), show i - min (n - la).toNat 64 = (la - (n - (i : Int))).toNat by omega]
        simp
      · rw [decide_eq_false h3, decide_eq_false (show ¬ i ≥ min (n - la).toNat 64 by omega)]
        simp
theorem takeBits_behind (la : Int) (b : Nat) (n : Int) (h : n ≤ la) (h2 : la < n + 64) (hb : b < 18446744073709551616) : takeBits true la b n = b ||| 2 ^ (la - n).toNat := by
  unfold takeBits
  symm
  have e : (18446744073709551616 : Nat) = 2 ^ 64 := by decide
  have hl : last true la n = la := by
    unfold last
    by_cases h3 : n < la
    · rw [if_pos ⟨rfl, h3⟩]
    · rw [if_neg (fun hc => h3 hc.2)]; omega
  apply bitsOf_eq
  · exact Nat.or_lt_two_pow (by omega) (Nat.pow_lt_pow_right (by decide) (by omega))
  · intro i hi
    unfold came
    rw [hl, Nat.testBit_or, Nat.testBit_two_pow]
    rw [decide_eq_true (show la - (i : Int) ≤ la by omega), decide_eq_true (show la - (la - (i : Int)) < 64 by omega), show (la - (la - (i : Int))).toNat = i by omega]
    rw [show decide ((la - n).toNat = i) = decide (la - (i : Int) = n) from by
      by_cases h4 : (la - n).toNat = i
      · rw [decide_eq_true h4, decide_eq_true (by omega)]
      · rw [decide_eq_false h4, decide_eq_false (by omega)]]
    simp [Bool.or_comm]
end Go.Proofs.Ytgcaapehfnmelaa.Wn
