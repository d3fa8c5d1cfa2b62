/- The plain words of chapter 5 (replay windows): nothing of the program is named here. -/
namespace Go.Proofs.Ytgcaapehfnmelaa.Wn

/-- A bit i below k is set for which la - i is negative. -/
def bad (b : Nat) (la : Int) (k : Nat) : Bool := (List.range k).any fun i => b.testBit i && decide (la < (i : Int))
theorem bad_zero (b : Nat) (la : Int) : bad b la 0 = false := rfl
theorem bad_succ (b : Nat) (la : Int) (k : Nat) : bad b la (k + 1) = (bad b la k || (b.testBit k && decide (la < (k : Int)))) := by
  unfold bad; rw [List.range_succ, List.any_append]; simp
theorem bad_mono (b : Nat) (la : Int) (k m : Nat) (h : k ≤ m) (hb : bad b la k = true) : bad b la m = true := by
  induction h with
  | refl => exact hb
  | step _ ih => rw [bad_succ, ih]; rfl
theorem bad_iff (b : Nat) (la : Int) (k : Nat) : bad b la k = true ↔ ∃ i, i < k ∧ b.testBit i = true ∧ la < (i : Int) := by
  unfold bad
  rw [List.any_eq_true]
  constructor
  · rintro ⟨i, hi, h⟩
    rw [List.mem_range] at hi
    simp at h
    exact ⟨i, hi, h.1, h.2⟩
  · rintro ⟨i, hi, h1, h2⟩
    exact ⟨i, List.mem_range.2 hi, by simp [h1, h2]⟩
def err (so : Bool) (la : Int) (b : Nat) : Nat :=
  if so = false then (if la ≠ 0 ∨ b ≠ 0 then 14 else 0) else if la < 0 ∨ 1099511627776 < la then 4 else if b % 2 = 0 then 14 else if bad b la 64 = true then 14 else 0
def hasErr (so : Bool) (la : Int) (b : Nat) (n : Int) : Nat := if err so la b ≠ 0 then err so la b else if n < 0 ∨ 1099511627776 < n then 4 else 0
/-- The counter has come, or is too old. -/
def has (so : Bool) (la : Int) (b : Nat) (n : Int) : Bool := so && decide (n ≤ la) && (decide (n ≤ la - 64) || b.testBit (la - n).toNat)
def hasOut (so : Bool) (la : Int) (b : Nat) (n : Int) : Bool := if hasErr so la b n = 0 then has so la b n else false
def takeErr (so : Bool) (la : Int) (b : Nat) (n : Int) : Nat := if hasErr so la b n ≠ 0 then hasErr so la b n else if has so la b n = true then 10 else 0
def last (so : Bool) (la n : Int) : Int := if so = true ∧ n < la then la else n
/-- The number whose bits below k are f's. -/
def bitsOf (f : Nat → Bool) : Nat → Nat
  | 0 => 0
  | k + 1 => bitsOf f k + (if f k then 2 ^ k else 0)
theorem bitsOf_lt (f : Nat → Bool) : ∀ k, bitsOf f k < 2 ^ k
  | 0 => by simp [bitsOf]
  | k + 1 => by
    have := bitsOf_lt f k
    rw [bitsOf, Nat.pow_succ]
    split <;> omega
theorem bitsOf_testBit (f : Nat → Bool) : ∀ k i, (bitsOf f k).testBit i = (decide (i < k) && f i)
  | 0, i => by simp [bitsOf]
  | k + 1, i => by
    have hl := bitsOf_lt f k
    rw [bitsOf]
    by_cases hf : f k = true
    · rw [if_pos hf, Nat.add_comm]
      rcases Nat.lt_trichotomy i k with h | h | h
      · rw [Nat.testBit_two_pow_add_gt h, bitsOf_testBit f k i]; simp [h]; omega
      · subst h; rw [Nat.testBit_two_pow_add_eq, bitsOf_testBit f i i]; simp [hf]
      · have : (2 ^ k + bitsOf f k).testBit i = false := Nat.testBit_lt_two_pow (by
          have : 2 ^ (k + 1) ≤ 2 ^ i := Nat.pow_le_pow_right (by decide) h
          rw [Nat.pow_succ] at this; omega)
        rw [this]; simp; omega
    · have hf' : f k = false := by simpa using hf
      rw [if_neg hf, Nat.add_zero, bitsOf_testBit f k i]
      rcases Nat.lt_trichotomy i k with h | h | h
      · simp [h]; omega
      · subst h; simp [hf']
      · rw [decide_eq_false (by omega), decide_eq_false (by omega)]
theorem bitsOf_eq (f : Nat → Bool) (k x : Nat) (hx : x < 2 ^ k) (h : ∀ i, i < k → x.testBit i = f i) : x = bitsOf f k := by
  apply Nat.eq_of_testBit_eq
  intro i
  rw [bitsOf_testBit]
  by_cases hi : i < k
  · rw [h i hi]; simp [hi]
  · rw [Nat.testBit_lt_two_pow (Nat.lt_of_lt_of_le hx (Nat.pow_le_pow_right (by decide) (by omega)))]; simp [hi]
/-- Counter last - i has come, once n is taken. -/
def came (so : Bool) (la : Int) (b : Nat) (n : Int) (i : Nat) : Bool :=
  decide (last so la n - i = n) || (so && decide (last so la n - i ≤ la) && decide (la - (last so la n - i) < 64) && b.testBit (la - (last so la n - i)).toNat)
def takeBits (so : Bool) (la : Int) (b : Nat) (n : Int) : Nat := bitsOf (came so la b n) 64
theorem err_cases (so : Bool) (la : Int) (b : Nat) : (so = false ∧ (la ≠ 0 ∨ b ≠ 0) ∧ err so la b = 14) ∨ (so = false ∧ la = 0 ∧ b = 0 ∧ err so la b = 0) ∨ (so = true ∧ (la < 0 ∨ 1099511627776 < la) ∧ err so la b = 4) ∨
    (so = true ∧ 0 ≤ la ∧ la ≤ 1099511627776 ∧ b % 2 = 0 ∧ err so la b = 14) ∨ (so = true ∧ 0 ≤ la ∧ la ≤ 1099511627776 ∧ b % 2 = 1 ∧ bad b la 64 = true ∧ err so la b = 14) ∨
    (so = true ∧ 0 ≤ la ∧ la ≤ 1099511627776 ∧ b % 2 = 1 ∧ bad b la 64 = false ∧ err so la b = 0) := by
  unfold err
  cases so
  · rw [if_pos rfl]
    by_cases h : la ≠ 0 ∨ b ≠ 0
    · rw [if_pos h]; exact .inl ⟨rfl, h, rfl⟩
    · rw [if_neg h]; exact .inr (.inl ⟨rfl, by omega, by omega, rfl⟩)
  · rw [if_neg (by decide)]
    by_cases h : la < 0 ∨ 1099511627776 < la
    · rw [if_pos h]; exact .inr (.inr (.inl ⟨rfl, h, rfl⟩))
    · rw [if_neg h]
      by_cases h2 : b % 2 = 0
      · rw [if_pos h2]; exact .inr (.inr (.inr (.inl ⟨rfl, by omega, by omega, h2, rfl⟩)))
      · rw [if_neg h2]
        cases h3 : bad b la 64
        · exact .inr (.inr (.inr (.inr (.inr ⟨rfl, by omega, by omega, by omega, rfl, rfl⟩))))
        · exact .inr (.inr (.inr (.inr (.inl ⟨rfl, by omega, by omega, by omega, rfl, rfl⟩))))
end Go.Proofs.Ytgcaapehfnmelaa.Wn
