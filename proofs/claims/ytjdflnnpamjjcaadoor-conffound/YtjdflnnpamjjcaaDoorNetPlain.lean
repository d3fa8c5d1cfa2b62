/- The plain words of chapter 7 (networks); nothing of the program is named here. -/
import Derived.Test.YtjdflnnpamjjcaaDoorMem
namespace Go.Proofs.YtjdflnnpamjjcaaDoor.Nt

/-- The first n bits of an address, the rest 0. -/
def cut (a n : Nat) : Nat := a / 2 ^ (32 - n) * 2 ^ (32 - n)
def err (a : Nat) (b : Int) : Nat := if b < 0 ∨ 32 < b then 4 else if a % 2 ^ (32 - b.toNat) = 0 then 0 else 3
def ofErr (b : Int) : Nat := if b < 0 ∨ 32 < b then 4 else 0
def ofAddr (a : Nat) (b : Int) : Nat := if b < 0 ∨ 32 < b then 0 else cut a b.toNat
def ofBits (b : Int) : Int := if b < 0 ∨ 32 < b then 0 else b
def has (n : Nat) (b : Int) (a : Nat) : Bool := decide (err n b = 0) && decide (cut a b.toNat = n)
def holds (n : Nat) (b : Int) (m : Nat) (c : Int) : Bool := decide (err m c = 0) && decide (b ≤ c) && has n b m
/-- How many of the first k bits two addresses have in common. -/
def common (n m : Nat) : Nat → Nat
  | 0 => 0
  | k + 1 => if cut n (k + 1) = cut m (k + 1) then k + 1 else common n m k
def joinErr (n : Nat) (b : Int) (m : Nat) (c : Int) : Nat := if err n b ≠ 0 then err n b else err m c
def joinBits (n : Nat) (b : Int) (m : Nat) (c : Int) : Nat := if joinErr n b m c = 0 then common n m (min b.toNat c.toNat) else 0
def joinAddr (n : Nat) (b : Int) (m : Nat) (c : Int) : Nat := if joinErr n b m c = 0 then cut n (common n m (min b.toNat c.toNat)) else 0
def order (n : Nat) (b : Int) (m : Nat) (c : Int) : Int := if n < m ∨ n = m ∧ b < c then -1 else if n = m ∧ b = c then 0 else 1

theorem err_cases (a : Nat) (b : Int) : ((b < 0 ∨ 32 < b) ∧ err a b = 4) ∨ (0 ≤ b ∧ b ≤ 32 ∧ a % 2 ^ (32 - b.toNat) = 0 ∧ err a b = 0) ∨ (0 ≤ b ∧ b ≤ 32 ∧ a % 2 ^ (32 - b.toNat) ≠ 0 ∧ err a b = 3) := by
  unfold err
  by_cases h : b < 0 ∨ 32 < b
  · rw [if_pos h]; exact .inl ⟨h, rfl⟩
  · rw [if_neg h]
    by_cases h2 : a % 2 ^ (32 - b.toNat) = 0
    · rw [if_pos h2]; exact .inr (.inl ⟨by omega, by omega, h2, rfl⟩)
    · rw [if_neg h2]; exact .inr (.inr ⟨by omega, by omega, h2, rfl⟩)
theorem err_zero {a : Nat} {b : Int} (h : err a b = 0) : 0 ≤ b ∧ b ≤ 32 ∧ a % 2 ^ (32 - b.toNat) = 0 := by
  rcases err_cases a b with ⟨_, h2⟩ | ⟨h1, h2, h3, _⟩ | ⟨_, _, _, h2⟩
  · rw [h] at h2; cases h2
  · exact ⟨h1, h2, h3⟩
  · rw [h] at h2; cases h2
theorem err_of {a : Nat} {n : Nat} (hn : n ≤ 32) (h : a % 2 ^ (32 - n) = 0) : err a (n : Int) = 0 := by
  unfold err
  rw [if_neg (by omega), Int.toNat_natCast, if_pos h]
theorem cut_le (a n : Nat) : cut a n ≤ a := Nat.div_mul_le_self _ _
theorem cut_mod (a n : Nat) : cut a n % 2 ^ (32 - n) = 0 := by unfold cut; exact Nat.mul_mod_left _ _
theorem cut_zero (a : Nat) (h : a < 4294967296) : cut a 0 = 0 := by
  unfold cut
  rw [Nat.div_eq_of_lt (by simpa using h), Nat.zero_mul]
theorem cut_self {a n : Nat} (h : a % 2 ^ (32 - n) = 0) : cut a n = a := Nat.div_mul_cancel (Nat.dvd_of_mod_eq_zero h)
/-- A cut within a cut. -/
theorem cut_cut (a : Nat) {n k : Nat} (h : k ≤ n) : cut (cut a n) k = cut a k := by
  unfold cut
  have e : 2 ^ (32 - k) = 2 ^ (32 - n) * 2 ^ ((32 - k) - (32 - n)) := by rw [← Nat.pow_add]; congr 1; omega
  have hp : 0 < 2 ^ (32 - n) := Nat.two_pow_pos _
  conv => lhs; rw [e, ← Nat.div_div_eq_div_mul, Nat.mul_div_cancel _ hp, Nat.div_div_eq_div_mul, ← e]
theorem cut_mono (a b : Nat) {n k : Nat} (h : k ≤ n) (he : cut a n = cut b n) : cut a k = cut b k := by
  rw [← cut_cut a h, he, cut_cut b h]
theorem common_le (n m : Nat) : ∀ k, common n m k ≤ k := by
  intro k
  induction k with
  | zero => exact Nat.le_refl _
  | succ k ih => unfold common; split <;> omega
theorem common_eq (n m : Nat) (hn : n < 4294967296) (hm : m < 4294967296) : ∀ k, cut n (common n m k) = cut m (common n m k) := by
  intro k
  induction k with
  | zero => rw [common, cut_zero n hn, cut_zero m hm]
  | succ k ih => unfold common; split <;> assumption
theorem common_max (n m : Nat) : ∀ k j, j ≤ k → cut n j = cut m j → j ≤ common n m k := by
  intro k
  induction k with
  | zero => intro j hj _; omega
  | succ k ih =>
    intro j hj he
    unfold common
    split
    · exact hj
    · rename_i hne
      by_cases h : j = k + 1
      · subst h; exact absurd he hne
      · exact ih j (by omega) he
theorem common_comm (n m : Nat) : ∀ k, common n m k = common m n k := by
  intro k
  induction k with
  | zero => rfl
  | succ k ih =>
    unfold common
    rw [ih]
    by_cases h : cut n (k + 1) = cut m (k + 1)
    · rw [if_pos h, if_pos h.symm]
    · rw [if_neg h, if_neg (fun e => h e.symm)]
/-- One bit more. -/
theorem mod_step (a k : Nat) : a % 2 ^ (k + 1) = a % 2 ^ k + 2 ^ k * (a / 2 ^ k % 2) := Nat.mod_pow_succ
theorem cut_step (a n : Nat) (h : n < 32) : cut a (n + 1) = cut a n + (a / 2 ^ (31 - n) % 2) * 2 ^ (31 - n) := by
  unfold cut
  have e : 32 - n = (31 - n) + 1 := by omega
  have e1 : 32 - (n + 1) = 31 - n := by omega
  rw [e, e1, Nat.pow_succ, ← Nat.div_div_eq_div_mul]
  generalize 2 ^ (31 - n) = p
  generalize a / p = q
  have hq : q = q / 2 * 2 + q % 2 := by omega
  conv => lhs; rw [hq]
  rw [Nat.add_mul, Nat.mul_assoc, Nat.mul_comm 2 p]
theorem cut_lt (a n : Nat) (h : a < 4294967296) : cut a n < 4294967296 := Nat.lt_of_le_of_lt (cut_le a n) h
end Go.Proofs.YtjdflnnpamjjcaaDoor.Nt
