/- The plain words of chapter 6: a text cut at its first dots; nothing of the program is named here. -/
import Derived.Test.YtjdflnnpamjjcaaDoorAddrPlain2
namespace Go.Proofs.YtjdflnnpamjjcaaDoor.Ad

theorem parts_length (c : UInt8) : ∀ l : List UInt8, (parts c l).length = l.count c + 1 := by
  intro l
  induction l with
  | nil => rfl
  | cons x r ih =>
    by_cases hx : x = c
    · subst hx
      rw [parts, if_pos rfl, List.count_cons_self, List.length_cons, ih]
    · rw [parts, if_neg hx, List.count_cons_of_ne hx]
      match hp : parts c r, parts_ne c r with
      | p :: ps, _ => rw [hp] at ih; simpa using ih
/-- A text at its first byte c. -/
theorem at_first (c : UInt8) (l : List UInt8) : (Lib.index l [c] = -1 ∧ c ∉ l) ∨ ∃ i : Nat, Lib.index l [c] = (i : Int) ∧ c ∉ l.take i ∧ l = l.take i ++ c :: l.drop (i + 1) := by
  rw [Lib.index_one]
  have hge := Lib.indexByte_ge l c
  by_cases h : Lib.indexByte l c = -1
  · left
    refine ⟨h, fun hm => ?_⟩
    obtain ⟨i, hi, he⟩ := List.mem_iff_getElem.1 hm
    exact Lib.indexByte_none h i (by rw [List.getElem?_eq_getElem hi, he])
  · right
    obtain ⟨i, hi⟩ : ∃ i : Nat, Lib.indexByte l c = (i : Int) := ⟨(Lib.indexByte l c).toNat, by omega⟩
    obtain ⟨h1, h2⟩ := Lib.indexByte_some hi
    have hlt : i < l.length := by
      by_cases hk : i < l.length
      · exact hk
      · rw [List.getElem?_eq_none (by omega)] at h1; cases h1
    refine ⟨i, hi, fun hm => ?_, ?_⟩
    · obtain ⟨j, hj, he⟩ := List.mem_iff_getElem.1 hm
      rw [List.length_take] at hj
      rw [List.getElem_take] at he
      exact h2 j (by omega) (by rw [List.getElem?_eq_getElem (by omega), he])
    · rw [List.getElem?_eq_getElem hlt] at h1
      injection h1 with h1
      rw [← h1, ← List.drop_eq_getElem_cons hlt, List.take_append_drop]
theorem split_hit (c : UInt8) (k : Nat) (l : List UInt8) (i : Nat) (h : Lib.index l [c] = (i : Int)) : Lib.splitK [c] 0 (k + 1) l = l.take i :: Lib.splitK [c] 0 k (l.drop (i + 1)) := by
  rw [Lib.splitK, h, if_neg (by simp), Int.toNat_natCast]
  rfl
theorem split_miss (c : UInt8) (k : Nat) (l : List UInt8) (h : Lib.index l [c] = -1) : Lib.splitK [c] 0 k l = [l] := by
  cases k with
  | zero => rfl
  | succ k => rw [Lib.splitK, h]; rfl
theorem count_at (c : UInt8) (p r : List UInt8) (h : c ∉ p) : (p ++ c :: r).count c = r.count c + 1 := by
  rw [List.count_append, List.count_eq_zero.2 h, List.count_cons_self]; omega
/-- Cut at as many bytes as there are: the pieces. -/
theorem split_all (c : UInt8) : ∀ (k : Nat) (l : List UInt8), l.count c ≤ k → Lib.splitK [c] 0 k l = parts c l := by
  intro k
  induction k with
  | zero =>
    intro l h
    rw [parts_plain c l (List.count_eq_zero.1 (by omega))]
    rfl
  | succ k ih =>
    intro l h
    rcases at_first c l with ⟨hi, hm⟩ | ⟨i, hi, hm, he⟩
    · rw [split_miss c _ l hi, parts_plain c l hm]
    · rw [split_hit c k l i hi]
      have hc : (l.drop (i + 1)).count c ≤ k := by
        rw [he, count_at c _ _ hm] at h; omega
      rw [ih _ hc]
      conv => rhs; rw [he, parts_front c _ _ hm]
/-- Cut at fewer: one piece more than cuts. -/
theorem split_some (c : UInt8) : ∀ (k : Nat) (l : List UInt8), k < l.count c → (Lib.splitK [c] 0 k l).length = k + 1 := by
  intro k
  induction k with
  | zero => intro l _; rfl
  | succ k ih =>
    intro l h
    rcases at_first c l with ⟨hi, hm⟩ | ⟨i, hi, hm, he⟩
    · rw [List.count_eq_zero.2 hm] at h; omega
    · rw [split_hit c k l i hi, List.length_cons]
      have hc : k < (l.drop (i + 1)).count c := by
        rw [he, count_at c _ _ hm] at h; omega
      rw [ih _ hc]
/-- Cut at the first four at most, or at as many as the text has letters: four pieces exactly if there are four in all, and then they are these. -/
theorem split_four (c : UInt8) (l : List UInt8) (N : Nat) (hN : N = min 5 (l.length + 1)) :
    (Lib.splitK [c] 0 (N - 1) l).length = 4 ∧ Lib.splitK [c] 0 (N - 1) l = parts c l ∨ (Lib.splitK [c] 0 (N - 1) l).length ≠ 4 ∧ (parts c l).length ≠ 4 := by
  have hcl := List.count_le_length (a := c) (l := l)
  by_cases h : l.count c ≤ N - 1
  · rw [split_all c _ l h]
    by_cases h4 : (parts c l).length = 4
    · exact .inl ⟨h4, rfl⟩
    · exact .inr ⟨h4, h4⟩
  · right
    rw [split_some c _ l (by omega), parts_length]
    omega
end Go.Proofs.YtjdflnnpamjjcaaDoor.Ad
