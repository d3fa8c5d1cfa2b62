/- The plain words of chapter 10 (messages), over lists of bytes; nothing of the program is named here. -/
import Derived.Test.YtfgkodgdoplpbabPackPlain
namespace Go.Proofs.Ytfgkodgdoplpbab.Wr

/-- A number as m bytes, the least significant one first. -/
def leL (x : Nat) : Nat → List UInt8
  | 0 => []
  | m + 1 => UInt8.ofNat x :: leL (x / 256) m
/-- Bytes as a number, the least significant one first. -/
def num : List UInt8 → Nat
  | [] => 0
  | b :: l => b.toNat + 256 * num l
theorem leL_length : ∀ (m x : Nat), (leL x m).length = m
  | 0, _ => rfl
  | m + 1, x => by simp [leL, leL_length m]
theorem leL_snoc : ∀ (m x : Nat), leL x m ++ [UInt8.ofNat (x / 256 ^ m)] = leL x (m + 1)
  | 0, x => by simp [leL]
  | m + 1, x => by
    have ih := leL_snoc m (x / 256)
    rw [Nat.div_div_eq_div_mul, show 256 * 256 ^ m = 256 ^ (m + 1) by rw [Nat.pow_succ, Nat.mul_comm]] at ih
    show UInt8.ofNat x :: (leL (x / 256) m ++ _) = _
    rw [ih]
    rfl
theorem num_lt : ∀ l : List UInt8, num l < 256 ^ l.length
  | [] => by simp [num]
  | b :: l => by
    have ih := num_lt l
    have hb := b.toNat_lt
    simp only [num, List.length_cons, Nat.pow_succ]
    omega
theorem num_append : ∀ (a b : List UInt8), num (a ++ b) = num a + 256 ^ a.length * num b
  | [], b => by simp [num]
  | x :: a, b => by
    have ih := num_append a b
    simp only [List.cons_append, num, ih, List.length_cons, Nat.pow_succ]
    rw [Nat.mul_add, ← Nat.mul_assoc, Nat.mul_comm 256 (256 ^ a.length)]
    omega
theorem num_snoc (l : List UInt8) (i : Nat) (h : i < l.length) : num (l.take (i + 1)) = num (l.take i) + (l.getD i 0).toNat * 256 ^ i := by
  rw [List.take_succ_eq_append_getElem h, num_append, List.length_take, Nat.min_eq_left (by omega)]
  simp only [num, Nat.mul_zero, Nat.add_zero]
  rw [Nat.mul_comm, List.getD_eq_getElem?_getD, List.getElem?_eq_getElem h]
  rfl
theorem num_drop (l : List UInt8) (i : Nat) (h : i < l.length) : num (l.drop i) = (l.getD i 0).toNat + 256 * num (l.drop (i + 1)) := by
  rw [List.drop_eq_getElem_cons h, List.getD_eq_getElem?_getD, List.getElem?_eq_getElem h]
  rfl
theorem num_leL : ∀ (m x : Nat), x < 256 ^ m → num (leL x m) = x
  | 0, x, h => by simp at h; subst h; rfl
  | m + 1, x, h => by
    have ih := num_leL m (x / 256) (by rw [Nat.div_lt_iff_lt_mul (by decide)]; rw [Nat.pow_succ] at h; exact h)
    simp only [leL, num, ih, UInt8.toNat_ofNat']
    omega
theorem leL_num : ∀ l : List UInt8, leL (num l) l.length = l
  | [] => rfl
  | b :: l => by
    have ih := leL_num l
    have hb := b.toNat_lt
    simp only [List.length_cons, leL, num]
    rw [show (b.toNat + 256 * num l) / 256 = num l by omega, ih]
    congr 1
    apply UInt8.toNat_inj.1
    rw [UInt8.toNat_ofNat']
    omega
theorem leL_beL (x m : Nat) : (leL x m) = (Sl.beL x m).reverse := by
  induction m with
  | zero => rfl
  | succ m ih =>
    rw [← leL_snoc, ih]
    unfold Sl.beL
    rw [List.range_succ_eq_map, List.map_cons, List.reverse_cons, List.map_map]
    congr 1
    · congr 1
      apply List.map_congr_left
      intro i hi
      rw [List.mem_range] at hi
      simp only [Function.comp]
      rw [show m + 1 - 1 - i.succ = m - 1 - i by omega]
theorem leL_get (x m i : Nat) (h : i < m) : (leL x m)[i]? = (Sl.beL x m)[m - 1 - i]? := by
  rw [leL_beL, List.getElem?_reverse (by rw [Sl.beL_length]; exact h), Sl.beL_length]

/-- What a type has: its numbers' sizes, and the sizes of the body. -/
def szS (k : Nat) : Nat := if k = 4 then 0 else 4
def szR (k : Nat) : Nat := if k = 1 then 0 else 4
def szC (k : Nat) : Nat := if k = 4 then 8 else 0
def head (k : Nat) : Nat := 4 + szS k + szR k + szC k
def least (k : Nat) : Nat := if k = 1 then 32 else if k = 2 then 24 else 16
def most (k : Nat) : Nat := if k = 1 then 32 else if k = 2 then 24 else 236
def Known (k : Int) : Prop := k = 1 ∨ k = 2 ∨ k = 4
instance (k : Int) : Decidable (Known k) := by unfold Known; infer_instance
def Lacks (k s r c : Int) : Prop := (k = 4 ∧ s ≠ 0) ∨ (k = 1 ∧ r ≠ 0) ∨ (k ≠ 4 ∧ c ≠ 0)
instance (k s r c : Int) : Decidable (Lacks k s r c) := by unfold Lacks; infer_instance
def Off (s r c : Int) : Prop := s < 0 ∨ 4294967295 < s ∨ r < 0 ∨ 4294967295 < r ∨ c < 0 ∨ 1099511627776 < c
instance (s r c : Int) : Decidable (Off s r c) := by unfold Off; infer_instance
def inR (n m : Int) : Bool := decide (0 ≤ n ∧ n ≤ m)
theorem inR_true {n m : Int} (h0 : 0 ≤ n) (h1 : n ≤ m) : inR n m = true := decide_eq_true ⟨h0, h1⟩
theorem inR_false {n m : Int} (h : n < 0 ∨ m < n) : inR n m = false := decide_eq_false (by omega)
def lacks (k s r c : Int) : Bool := decide (Lacks k s r c)
def err (k s r c : Int) (n : Nat) : Nat :=
  if ¬ Known k then 2 else if Lacks k s r c then 3 else if Off s r c then 4 else if n < least k.toNat ∨ most k.toNat < n then 1 else 0
def enc (k s r c : Nat) (b : List UInt8) : List UInt8 := [UInt8.ofNat k, 0, 0, 0] ++ leL s (szS k) ++ leL r (szR k) ++ leL c (szC k) ++ b
theorem enc_length (k s r c : Nat) (b : List UInt8) : (enc k s r c b).length = head k + b.length := by
  simp [enc, leL_length, head]
  omega
def encOut (k s r c : Int) (b : List UInt8) : List UInt8 := if err k s r c b.length = 0 then enc k.toNat s.toNat r.toNat c.toNat b else []
theorem err_known {k s r c : Int} {n : Nat} (h : err k s r c n ≠ 2) : Known k := by
  unfold err at h
  by_cases hk : Known k
  · exact hk
  · rw [if_pos hk] at h; exact absurd rfl h
theorem err_zero {k s r c : Int} {n : Nat} : err k s r c n = 0 ↔ Known k ∧ ¬ Lacks k s r c ∧ ¬ Off s r c ∧ least k.toNat ≤ n ∧ n ≤ most k.toNat := by
  unfold err
  by_cases h1 : Known k
  · rw [if_neg (by simpa using h1)]
    by_cases h2 : Lacks k s r c
    · rw [if_pos h2]; simp [h2]
    · rw [if_neg h2]
      by_cases h3 : Off s r c
      · rw [if_pos h3]; simp [h3]
      · rw [if_neg h3]
        by_cases h4 : n < least k.toNat ∨ most k.toNat < n
        · rw [if_pos h4]; simp [h1, h2, h3]; omega
        · rw [if_neg h4]; simp [h1, h2, h3]; omega
  · rw [if_pos h1]; simp [h1]

/-- Sixty-four bits as a number with a sign. -/
def sgn (x : Nat) : Int := if x < 9223372036854775808 then (x : Int) else (x : Int) - 18446744073709551616
def kd (l : List UInt8) : Nat := (l.getD 0 0).toNat
def rs (l : List UInt8) : Nat := num ((l.drop 4).take (szS (kd l)))
def rr (l : List UInt8) : Nat := num ((l.drop (4 + szS (kd l))).take (szR (kd l)))
def rn (l : List UInt8) : Nat := num ((l.drop (4 + szS (kd l) + szR (kd l))).take (szC (kd l)))
def rc (l : List UInt8) : Int := sgn (rn l)
def rb (l : List UInt8) : List UInt8 := l.drop (head (kd l))
def decErr (l : List UInt8) : Nat :=
  if l.length < 4 then 8 else if ¬ Known (kd l) then 2 else if l.getD 1 0 ≠ 0 ∨ l.getD 2 0 ≠ 0 ∨ l.getD 3 0 ≠ 0 then 3 else if l.length < head (kd l) then 8
    else err (kd l) (rs l) (rr l) (rc l) (rb l).length
def dk (l : List UInt8) : Int := if decErr l = 0 then (kd l : Int) else 0
def ds (l : List UInt8) : Int := if decErr l = 0 then (rs l : Int) else 0
def dr (l : List UInt8) : Int := if decErr l = 0 then (rr l : Int) else 0
def dc (l : List UInt8) : Int := if decErr l = 0 then rc l else 0
def db (l : List UInt8) : List UInt8 := if decErr l = 0 then rb l else []
theorem dec_err (l : List UInt8) (h : decErr l ≠ 0) : dk l = 0 ∧ ds l = 0 ∧ dr l = 0 ∧ dc l = 0 ∧ db l = [] := by
  unfold dk ds dr dc db
  rw [if_neg h, if_neg h, if_neg h, if_neg h, if_neg h]
  exact ⟨rfl, rfl, rfl, rfl, rfl⟩
end Go.Proofs.Ytfgkodgdoplpbab.Wr
