/- Small facts on a setting's parts. -/
import Derived.Test.YtjdflnnpamjjcaaDoorBatchPlain
import Derived.Laws.StructEq
namespace Go.Proofs.YtjdflnnpamjjcaaDoor
open Go.RowKit

theorem empty_size (s : ByteArray) : s.toList.isEmpty = decide (s.size = 0) := by
  rw [ByteArray.toList_eq]
  have : s.data.toList.length = s.size := by simp
  cases h : s.data.toList with
  | nil =>
    have hz : s.size = 0 := by rw [h] at this; exact this.symm
    rw [hz]; rfl
  | cons a r =>
    have hz : s.size ≠ 0 := by rw [h, List.length_cons] at this; omega
    rw [decide_eq_false hz]; rfl
theorem bool_parts (t : ByteArray) (n : Int) (a : Nat) (b : Int) : (t.toList.isEmpty = false ∨ t = ⟨#[]⟩) ∧ ((n != 0) = true ∨ n = 0) ∧ (((a : Int) == 0) = false ∨ (a = 0 ∧ (b == 0) = false) ∨ (a = 0 ∧ b = 0)) := by
  refine ⟨?_, ?_, ?_⟩
  · rw [empty_size]
    by_cases h : t.size = 0
    · right
      apply WideShapes.bytes_inj
      have : t.data.toList.length = 0 := by simpa using h
      rw [List.length_eq_zero_iff.1 this]
    · exact .inl (decide_eq_false h)
  · by_cases h : n = 0
    · exact .inr h
    · exact .inl (by simpa using h)
  · by_cases h : a = 0
    · by_cases h2 : b = 0
      · exact .inr (.inr ⟨h, h2⟩)
      · exact .inr (.inl ⟨h, by simpa using h2⟩)
    · exact .inl (by simp; omega)
/-- Is a field set beside field f? -/
def Bt.others (t : ByteArray) (n : Int) (a : Nat) (b : Int) (f : Nat) : Bool := (decide (f ≠ 1) && !t.toList.isEmpty) || (decide (f ≠ 2) && (n != 0)) || (decide (f ≠ 3) && !(((a : Int) == 0) && (b == 0)))
theorem Bt.more_others (s : Bt.S) : Bt.more s = Bt.others s.t s.n s.a s.b (Bt.fld s.k) := by
  unfold Bt.more Bt.others
  rw [empty_size]
  have e1 : decide (s.t.size ≠ 0) = !decide (s.t.size = 0) := by rw [decide_not]
  have e2 : decide (s.n ≠ 0) = (s.n != 0) := by
    rw [Bool.eq_iff_iff]; simp
  have e3 : decide (s.a ≠ 0 ∨ s.b ≠ 0) = !(((s.a : Int) == 0) && (s.b == 0)) := by
    rw [Bool.eq_iff_iff]; simp
  rw [e1, e2, e3, Bool.and_comm (!_) _, Bool.and_comm (_ != _) _, Bool.and_comm (!(_ && _)) _]
set_option maxRecDepth 20000 in
theorem Bt.zeros_lit : Bt.zeros = ⟨#[48, 48, 48, 48, 48, 48, 48, 48, 48, 48, 48, 48, 48, 48, 48, 48, 48, 48, 48, 48, 48, 48, 48, 48, 48, 48, 48, 48, 48, 48, 48, 48, 48, 48, 48, 48, 48, 48, 48, 48, 48, 48, 48, 48, 48, 48, 48, 48, 48, 48, 48, 48, 48, 48, 48, 48, 48, 48, 48, 48, 48, 48, 48, 48]⟩ := rfl
end Go.Proofs.YtjdflnnpamjjcaaDoor
