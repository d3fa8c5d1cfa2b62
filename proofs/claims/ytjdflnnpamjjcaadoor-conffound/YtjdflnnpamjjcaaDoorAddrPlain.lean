/- The plain words of chapter 6 (addresses and endpoints): numbers; nothing of the program is named here. -/
import Derived.Lib.ItoaNum
import Derived.Lib.AtoiAll
namespace Go.Proofs.YtjdflnnpamjjcaaDoor.Ad

def isD (c : UInt8) : Bool := decide (48 ≤ c.toNat ∧ c.toNat ≤ 57)
def step (a : Nat) (c : UInt8) : Nat := a * 10 + (c.toNat - 48)
/-- What digits spell. -/
def val (l : List UInt8) : Nat := l.foldl step 0
theorem val_snoc (l : List UInt8) (c : UInt8) : val (l ++ [c]) = val l * 10 + (c.toNat - 48) := by unfold val; rw [List.foldl_append]; rfl
/-- A decimal number of at most five digits, without superfluous leading zeros. -/
def isNum (l : List UInt8) : Bool := decide (l ≠ []) && decide (l.length ≤ 5) && l.all isD && (decide (l.length = 1) || decide (l.head? ≠ some 48))
def numErr (l : List UInt8) (most : Int) : Nat := if isNum l = true ∧ (val l : Int) ≤ most then 0 else 3
def numOut (l : List UInt8) (most : Int) : Nat := if numErr l most = 0 then val l else 0

theorem dig_digit (u : Nat) (h : u < 10) : isD (UInt8.ofNat (48 + u)) = true ∧ (UInt8.ofNat (48 + u)).toNat - 48 = u ∧ (u ≠ 0 → UInt8.ofNat (48 + u) ≠ 48) := by
  have : u = 0 ∨ u = 1 ∨ u = 2 ∨ u = 3 ∨ u = 4 ∨ u = 5 ∨ u = 6 ∨ u = 7 ∨ u = 8 ∨ u = 9 := by omega
  rcases this with rfl | rfl | rfl | rfl | rfl | rfl | rfl | rfl | rfl | rfl <;> decide
theorem dec_pos (u : Nat) : Lib.decDigits u ≠ [] := by
  intro e
  have := congrArg List.length e
  rw [Lib.decDigits_length] at this
  have := Lib.nDigits_pos u
  simp at *
  omega
theorem snoc_ind {P : List UInt8 → Prop} (h0 : P []) (h1 : ∀ l c, P l → P (l ++ [c])) (l : List UInt8) : P l := by
  have h : ∀ m : List UInt8, P m.reverse := by
    intro m
    induction m with
    | nil => exact h0
    | cons c r ih => rw [List.reverse_cons]; exact h1 _ _ ih
  have := h l.reverse
  rwa [List.reverse_reverse] at this
/-- The numeral of a number: digits, that spell it; its first one is no 0 but of 0 itself. -/
theorem dec_good : ∀ u : Nat, (Lib.decDigits u).all isD = true ∧ val (Lib.decDigits u) = u ∧ (0 < u → (Lib.decDigits u).head? ≠ some 48) := by
  intro u
  induction u using Nat.strongRecOn with
  | _ u ih =>
    by_cases h : u < 10
    · rw [Lib.decDigits, dif_pos h]
      obtain ⟨h1, h2, h3⟩ := dig_digit u h
      generalize UInt8.ofNat (48 + u) = c at *
      refine ⟨by simp only [List.all_cons, List.all_nil, Bool.and_true]; exact h1, by unfold val step; simp only [List.foldl_cons, List.foldl_nil]; omega, fun hu => ?_⟩
      intro e
      injection e with e
      exact h3 (by omega) e
    · obtain ⟨h1, h2, h3⟩ := ih (u / 10) (by omega)
      obtain ⟨g1, g2, _⟩ := dig_digit (u % 10) (by omega)
      rw [Lib.decDigits, dif_neg h]
      generalize UInt8.ofNat (48 + u % 10) = c at *
      refine ⟨by rw [List.all_append, h1]; simp only [List.all_cons, List.all_nil, Bool.and_true, Bool.true_and]; exact g1, by rw [val_snoc, h2, g2]; omega, fun _ => ?_⟩
      have hne := dec_pos (u / 10)
      have := h3 (by omega)
      cases hd : Lib.decDigits (u / 10) with
      | nil => exact absurd hd hne
      | cons c r => rw [hd] at this; simpa using this
theorem isD_ofNat (c : UInt8) (h : isD c = true) : UInt8.ofNat (48 + (c.toNat - 48)) = c ∧ c.toNat - 48 < 10 := by
  unfold isD at h
  have hc := of_decide_eq_true h
  refine ⟨?_, by omega⟩
  rw [show 48 + (c.toNat - 48) = c.toNat by omega]; simp
theorem val_pos : ∀ (l : List UInt8), l ≠ [] → l.all isD = true → l.head? ≠ some 48 → 0 < val l := by
  refine snoc_ind ?_ ?_
  · intro h; exact absurd rfl h
  · intro l c ih _ ha hh
    rw [List.all_append] at ha
    simp at ha
    rw [val_snoc]
    cases l with
    | nil =>
      have hc := ha
      have : c ≠ 48 := by simpa using hh
      have h2 := isD_ofNat c (by simpa using hc)
      have h3 : c.toNat ≠ 48 := fun e => this (UInt8.toNat_inj.1 e)
      have h4 : 48 ≤ c.toNat ∧ c.toNat ≤ 57 := by have := hc; unfold isD at this; simpa using this
      omega
    | cons d r =>
      have := ih (by simp) (by rw [List.all_eq_true]; exact ha.1) (by simpa using hh)
      omega
/-- A number is the numeral of what it spells. -/
theorem dec_val : ∀ (l : List UInt8), l ≠ [] → l.all isD = true → (l.length = 1 ∨ l.head? ≠ some 48) → Lib.decDigits (val l) = l := by
  refine snoc_ind ?_ ?_
  · intro h; exact absurd rfl h
  · intro l c ih _ ha hh
    rw [List.all_append] at ha
    simp only [List.all_cons, List.all_nil, Bool.and_true, Bool.and_eq_true] at ha
    obtain ⟨g1, g2⟩ := isD_ofNat c ha.2
    rw [val_snoc]
    cases hl : l with
    | nil =>
      rw [show val [] * 10 + (c.toNat - 48) = c.toNat - 48 by unfold val; simp]
      rw [Lib.decDigits, dif_pos g2, g1]
      rfl
    | cons d r =>
      have hd : l.head? ≠ some 48 := by
        rcases hh with hh | hh
        · rw [hl] at hh; simp at hh
        · rw [hl] at hh ⊢; simpa using hh
      have hlne : l ≠ [] := by rw [hl]; simp
      have hv := val_pos l hlne ha.1 hd
      have hi := ih hlne ha.1 (.inr hd)
      rw [← hl]
      rw [Lib.decDigits, dif_neg (by omega), show (val l * 10 + (c.toNat - 48)) / 10 = val l by omega, show (val l * 10 + (c.toNat - 48)) % 10 = c.toNat - 48 by omega, hi, g1]
theorem num_parts (l : List UInt8) (h : isNum l = true) : l ≠ [] ∧ l.length ≤ 5 ∧ l.all isD = true ∧ (l.length = 1 ∨ l.head? ≠ some 48) := by
  unfold isNum at h
  simp only [Bool.and_eq_true, Bool.or_eq_true, decide_eq_true_eq] at h
  exact ⟨h.1.1.1, h.1.1.2, h.1.2, h.2⟩
theorem val_lt : ∀ (l : List UInt8), l.all isD = true → val l < 10 ^ l.length := by
  refine snoc_ind ?_ ?_
  · intro _; simp [val]
  · intro l c ih ha
    rw [List.all_append] at ha
    simp only [List.all_cons, List.all_nil, Bool.and_true, Bool.and_eq_true] at ha
    have h1 := ih ha.1
    have h2 := (isD_ofNat c ha.2).2
    rw [val_snoc, List.length_append, List.length_singleton, Nat.pow_succ]
    omega
theorem num_lt (l : List UInt8) (h : isNum l = true) : val l < 100000 := by
  obtain ⟨_, h2, h3, _⟩ := num_parts l h
  have := val_lt l h3
  have h5 : 10 ^ l.length ≤ 10 ^ 5 := Nat.pow_le_pow_right (by decide) h2
  omega
theorem parse_digits : ∀ (l : List UInt8) (acc m : Nat), l.all isD = true → m + l.length ≤ 12 → acc < 10 ^ m → Lib.parseUint10 acc l = .ok (l.foldl step acc) := by
  intro l
  induction l with
  | nil => intro acc m _ _ _; rfl
  | cons c r ih =>
    intro acc m ha hm h1
    simp only [List.all_cons, Bool.and_eq_true] at ha
    have hc : 48 ≤ c.toNat ∧ c.toNat ≤ 57 := by have := ha.1; unfold isD at this; exact of_decide_eq_true this
    rw [List.length_cons] at hm
    have h12 : 10 ^ (m + 1) ≤ 10 ^ 12 := Nat.pow_le_pow_right (by decide) (by omega)
    rw [Nat.pow_succ] at h12
    rw [Lib.parseUint10, if_pos hc, if_neg (by omega), if_neg (by omega), List.foldl_cons]
    exact ih _ (m + 1) ha.2 (by omega) (by rw [Nat.pow_succ]; omega)
/-- How strconv.Atoi and strconv.Itoa see a number. -/
theorem num_atoi (l : List UInt8) (h : isNum l = true) : Lib.atoiAll l = .ok (val l : Int) ∧ Lib.itoa (val l : Int) = l := by
  obtain ⟨h1, h2, h3, h4⟩ := num_parts l h
  have hlt := num_lt l h
  constructor
  · match l, h1 with
    | c :: r, _ =>
      have ha := h3
      simp only [List.all_cons, Bool.and_eq_true] at ha
      have hc : 48 ≤ c.toNat ∧ c.toNat ≤ 57 := by have := ha.1; unfold isD at this; exact of_decide_eq_true this
      have hp := parse_digits (c :: r) 0 0 h3 (by omega) (by decide)
      simp only [Lib.atoiAll]
      rw [if_neg (show ¬ (c.toNat = 43 ∨ c.toNat = 45) by omega)]
      unfold Lib.parseMag
      rw [if_neg (by simp), hp]
      simp only
      rw [if_neg (by unfold val at hlt; omega), if_neg (by omega), if_neg (by omega)]
      rfl
  · unfold Lib.itoa
    rw [if_neg (by omega), Int.toNat_natCast]
    exact dec_val l h1 h3 h4
/-- And what they take to be one is one. -/
theorem num_back (l : List UInt8) (v : Int) (h0 : 0 ≤ v) (h5 : l.length ≤ 5) (hi : Lib.itoa v = l) : isNum l = true ∧ v = (val l : Int) := by
  unfold Lib.itoa at hi
  rw [if_neg (by omega)] at hi
  obtain ⟨g1, g2, g3⟩ := dec_good v.toNat
  have hp := dec_pos v.toNat
  rw [hi] at g1 g2 g3 hp
  refine ⟨?_, by omega⟩
  unfold isNum
  rw [decide_eq_true hp, decide_eq_true h5, g1, Bool.true_and, Bool.true_and, Bool.true_and]
  by_cases hv : 0 < v.toNat
  · rw [decide_eq_true (g3 hv), Bool.or_true]
  · have hz : v.toNat = 0 := by omega
    rw [hz, Lib.decDigits, dif_pos (by decide)] at hi
    rw [← hi]
    rfl
end Go.Proofs.YtjdflnnpamjjcaaDoor.Ad
